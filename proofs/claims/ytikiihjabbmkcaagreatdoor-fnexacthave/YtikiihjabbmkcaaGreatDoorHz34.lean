/- Texts put together: ShaOwn2, ShaAllA, ShaTop, NodeTop. -/
import Derived.Test.YtikiihjabbmkcaaGreatDoorHz33
import Derived.Test.YtikiihjabbmkcaaGreatDoorHz32
import Derived.BigRegion
import Derived.Test.YtikiihjabbmkcaaGreatDoorHz10
import Derived.Test.YtikiihjabbmkcaaGreatDoorHz26
set_option maxRecDepth 100000
set_option maxHeartbeats 8000000
/- A piece of a row of bytes as a text; a row of bytes that the call owns as a text; the digest's bytes, four by four. -/
namespace Go.Proofs.YtikiihjabbmkcaaGreatDoor.Sh
open Go.RowKit
theorem OwnB.piece {P:Program} {w:World} {base g cap L:Nat} {f:Nat->Nat} (h:OwnB w base (.slice (some ⟨g,0,none⟩) L cap) L f) (off m c:Nat) (hm:off+m<=L) (hf:∀ j,f j<256) {src dst e:TypeId}
  (hs:P.underlying src=some (.slice e)) (he:P.underlying e=some (.int .u8)) (hd:P.underlying dst=some .string) :
  (convert src dst (.slice (some ⟨g,off,none⟩) m c)).run P w=.ok (.string (strF m (fun j=>f (off+j)))) w:=by
 obtain⟨g',cap',e1,_,_,_,_,hcl,_⟩:=h
 simp at e1
 obtain⟨rfl,rfl⟩:=e1
 have hl:((List.range m).map fun j=>UInt8.ofNat (f (off+j))).length=m:=by simp
 have:=run_convert_bytes_back (P:=P) w src dst e ⟨g,off,none⟩ c ((List.range m).map fun j=>UInt8.ofNat (f (off+j))) hs he hd (by
  intro j hj
  rw[hl]at hj
  have hadd:(⟨g,off,none⟩:Addr).add j=⟨g,off+j,none⟩:=by unfold Addr.add;split<;>simp_all
  rw[hadd,hcl (off+j) (by omega)]
  have h3:=hf (off+j)
  simp
  omega)
 rw[hl]at this
 exact this
theorem own_str {P:Program} {w:World} {base e:Nat} {v:Value} {n:Nat} {f:Nat->Nat} (h:w.ownsRow base e 1 v n (rowF .u8 n (fun j=>(f j:Nat))).toList) (hf:∀ j,f j<256) {src dst:TypeId}
  (hs:P.underlying src=some (.slice e)) (he:P.underlying e=some (.int .u8)) (hd:P.underlying dst=some .string) :
  (convert src dst v).run P w=.ok (.string (strF n f)) w:=by
 have hl:((List.range n).map fun j=>UInt8.ofNat (f j)).length=n:=by simp
 have hm:((List.range n).map fun j=>UInt8.ofNat (f j)).map Nu.bv=(rowF .u8 n (fun j=>(f j:Nat))).toList:=by
  simp only[rowF,List.map_map]
  apply List.map_congr_left
  intro j _
  have:=hf j
  simp[Nu.bv]
  omega
 have:=Nu.own_string (P:=P) (src:=src) (dst:=dst) ((List.range n).map fun j=>UInt8.ofNat (f j)) (by rw[hl,hm];exact h) hs he hd
 exact this
theorem outF_at (s:Nat->Int) (j r:Nat) (hr:r<4):((outF s (4*j+r):Nat):Int)=s j/2 ^ (24-8*r)%256:=by
 rw[<-outF_cast]
 have h1:(4*j+r)/4=j:=by omega
 have h2:(4*j+r)%4=r:=by omega
 rw[h1,h2]
theorem out_four (s:Nat->Int) (j:Nat) (x0 x1 x2 x3:Int) (h0:x0=s j/16777216%256) (h1:x1=s j/65536%256) (h2:x2=s j/256%256) (h3:x3=s j%256) :
  (rowF .u8 (4*j) (fun q=>(outF s q:Nat))).toList++[.int .u8 x0,.int .u8 x1,.int .u8 x2,.int .u8 x3]=(rowF .u8 (4*(j+1)) (fun q=>(outF s q:Nat))).toList:=by
 have e0:x0=((outF s (4*j):Nat):Int):=by rw[h0];exact(outF_at s j 0 (by decide)).symm
 have e1:x1=((outF s (4*j+1):Nat):Int):=by rw[h1];exact(outF_at s j 1 (by decide)).symm
 have e2:x2=((outF s (4*j+2):Nat):Int):=by rw[h2];exact(outF_at s j 2 (by decide)).symm
 have e3:x3=((outF s (4*j+3):Nat):Int):=by
  rw[h3,outF_at s j 3 (by decide)]
  simp
 rw[e0,e1,e2,e3,show 4*(j+1)=4*j+1+1+1+1 by omega,<-rowF_snoc,<-rowF_snoc,<-rowF_snoc,<-rowF_snoc]
 simp
theorem four_new (W:World) (a b c d:Value) (t:TypeId):∀ (j:Nat) (u:Value),[a,b,c,d][j]? = some u->(W.alloc (.cells #[a,b,c,d] t)).cell? ((⟨W.heap.size,0,none⟩:Addr).add j)=some u:=by
 intro j u hj
 match j,hj with
 |0,hj=>simp at hj;subst hj;simp[Addr.add]
 |1,hj=>simp at hj;subst hj;simp[Addr.add]
 |2,hj=>simp at hj;subst hj;simp[Addr.add]
 |3,hj=>simp at hj;subst hj;simp[Addr.add]
end Go.Proofs.YtikiihjabbmkcaaGreatDoor.Sh


namespace Go.Proofs.YtikiihjabbmkcaaGreatDoor.Sh
open Go.RowKit
theorem hideA {p:Prop} (h:p):Hid p:=h
theorem app_own {B:Nat} {w wr w1:World} {v:Value} {n:Nat} {f:Nat->Nat} {o:Obj} (hbel:Below B w wr) (hB:B<=wr.heap.size) (hown:OwnB wr B v n f) (hgrow:(wr.alloc o).grownBy w1 v.ownBlock):Below B w w1:=by
 obtain⟨g,cap,rfl,hg,_⟩:=hown
 refine(hbel.alloc hB o).grown hgrow (by simp;omega) ?_
 intro k hk
 simp[Value.ownBlock]at hk
 omega
theorem four_cell (a b c d:Int):∀ u∈[Value.int .u8 a,Value.int .u8 b,Value.int .u8 c,Value.int .u8 d],u.oneCell'=true:=by
 intro u hu
 simp at hu
 rcases hu with rfl|rfl|rfl|rfl<;>rfl
theorem cell_one (W:World) (x:Value) (t:TypeId):(W.alloc (.cells #[x] t)).cell? ((⟨W.heap.size,0,none⟩:Addr).add 0)=some x:=one_new W x t 0 x rfl
theorem all_of (hblk:∀ (s:Nat->Int) (gs c:Nat) (t:ByteArray) (w:World),t.size=64->gs<w.heap.size->(∀ j,j<8->w.cell? ⟨gs,j,none⟩=some (.int .i64 (s j)))->(∀ j,0<=s j/\s j<4294967296) ->
   Calls Tryz.prog 186 #[.slice (some ⟨gs,0,none⟩) 8 c,.string t] w fun e w'=>∃ g c',e=.returned (.slice (some ⟨g,0,none⟩) 8 c')/\w.heap.size<=g/\g<w'.heap.size/\(∀ j,j<8->w'.cell? ⟨g,j,none⟩=some (.int .i64 (blk (bt t) s j)))/\Below w.heap.size w w')
  (t:ByteArray) (w:World) (ht:t.size<=1048576) :
  Calls Tryz.prog 152 #[.string t] w fun e w'=>e=.returned (.string (sha t))/\Below w.heap.size w w':=by
 have HBK:=hideA hblk
 clear hblk
 obtain⟨i0,hi,hz0,hz1,hz2⟩:=info_parts Nu.Tryz.infoJ5
 obtain⟨ch,hch⟩:∃ c,c=chunks t.size:=⟨_,rfl⟩
 have hr:=chunks_room t.size
 have hti:=chunks_tight t.size
 rw[<-hch]at hr hti
 have HCH:=hideA hch
 clear hch
 obtain⟨V,w1,hcv,hO,hB⟩:∃ V w1,(convert 9 168 (.string t)).run Tryz.prog w=.ok V w1/\OwnB w1 w.heap.size V t.size (bt t)/\Below w.heap.size w w1 :=
  ⟨_,_,run_bytes_of_string (P:=Tryz.prog) w 9 168 5 t Tryz.underlying9 Tryz.underlying168 Tryz.underlying5,own_of_string w w.heap.size t 5 (by unfold maxLen;omega) (Nat.le_refl _),(Below.refl _ _).drew.alloc (Nat.le_refl _) _⟩
 have HO:=hideA hO
 have HB:=hideA hB
 clear hO hB
 go_enter Tryz.func152,Tryz.ntmps152
 go_wp2_with (at_builtin;refine wpList_append_b rfl _ _ 168 rfl w.heap.size 5 i0 Tryz.underlying168 hi hz0 hz1 hz2 V t.size (bt t) rfl (HO.out.alloc _) ⟨w1.heap.size,0,none⟩ 1 128 rfl (cell_one w1 _ _) (by omega) (by have:=HB.out.size;simp;omega) ?_;intro v2 w2 hO2 hg2)
 have HO2:=hideA (hO2.congr (fun j hj=>pad_first t j hj))
 have HB2:=hideA (app_own HB.out HB.out.size HO.out hg2)
 clear hO2 hg2 HO HB
 go_loopw [3] (fun v wr=>∃ n:Nat,OwnB wr w.heap.size v n (pad t)/\t.size+1<=n/\n+8<=ch*64/\Below w.heap.size w wr) (fun v _=>match v with|.slice _ n _=>ch*64-n|_=>0)
 case atStart=>exact⟨t.size+1,HO2.out,by omega,by omega,HB2.out⟩
 case round =>
  obtain⟨n,hown,hn1,hn2,hbel⟩:=hrel
  have HO3:=hideA hown
  have HB3:=hideA hbel
  obtain⟨g,cap,hv,hcap⟩:=hown.slice
  subst hv
  clear hown hbel
  by_cases hmod:n%64=56
  ·have HN:=hideA (show n=ch*64-8 by omega)
   have em:((n:Int)%64==56)=true:=by simp;omega
   have em2:((n:Int)%64 != 56)=false:=by simp;omega
   go_wp2_with fail
   go_loopw [3,5] (fun v i wr=>∃ m:Nat,i=.int .i64 (56-8*(m:Int))/\m<=8/\OwnB wr w.heap.size v (n+m) (pad t)/\Below w.heap.size w wr) (fun _ i _=>(intOf i+8).toNat)
   case atStart=>exact⟨0,rfl,by omega,HO3.out,HB3.out⟩
   case round =>
    obtain⟨m,rfl,hm,hown,hbel⟩:=hrel
    have HO5:=hideA hown
    have HB5:=hideA hbel
    obtain⟨g5,cap5,hv,hcap5⟩:=hown.slice
    subst hv
    clear hown hbel
    by_cases hm8:m<8
    ·have q1:IntKind.u64.wrap (56-8*(m:Int))=56-8*(m:Int):=by simp[IntKind.wrap,IntKind.bits,IntKind.signed];omega
     have q2:(56-8*(m:Int)).toNat=56-8*m:=by omega
     have q3:0<=56-8*(m:Int):=by omega
     obtain⟨x,hx⟩:∃ x,x=t.size*8/2 ^ (56-8*m)%256:=⟨_,rfl⟩
     have HV:Hid (8*(t.size:Int)/2 ^ (56-8*m)%256=(x:Int)):=by
      unfold Hid
      rw[hx,Nat.mul_comm t.size 8]
      simp
     have HP:Hid (x=pad t (n+m)):=by
      unfold Hid
      rw[hx,HN.out,HCH.out,pad_len t m hm8]
     clear hx
     go_wp2_with (at_builtin;refine wpList_append_b rfl _ _ 168 rfl w.heap.size 5 i0 Tryz.underlying168 hi hz0 hz1 hz2 (.slice (some ⟨g5,0,none⟩) (n+m) cap5) (n+m) (pad t) rfl (HO5.out.alloc _) ⟨wr.heap.size,0,none⟩ 1 x rfl (by rw[cell_one];exact congrArg some (congrArg (Value.int .u8) HV.out)) (by omega) (by have:=HB5.out.size;simp;omega) ?_;intro v6 w6 hO6 hg6;have HO6:=hideA (hO6.congr (fun j _=>pad_app t (n+m) x HP.out j));have HB6:=hideA (app_own HB5.out HB5.out.size HO5.out hg6);clear hO6 hg6)
     go_roundw
     case rel=>exact⟨m+1,by go_num,by omega,HO6.out,HB6.out⟩
     case measure=>simp[intOf];omega
    ·have HNM:Hid (n+m=ch*64):=by
      have:=HN.out
      unfold Hid
      omega
     have q3:¬0<=56-8*(m:Int):=by omega
     go_wp2_with fail
     refine(start_any wr).mono ?_
     rintro e w7 ⟨rfl,hw7⟩
     have HS7:Hid (∀ j,j<8->w7.cell? ⟨wr.heap.size,j,none⟩=some (.int .i64 (shaS t 0 j))):=by
      intro j hj
      rw[hw7]
      exact(IsB.new wr 2 .i64 8 firstF).cell hj
     have HO7:Hid (OwnB w7 w.heap.size (.slice (some ⟨g5,0,none⟩) (n+m) cap5) (n+m) (pad t)):=by
      unfold Hid
      rw[hw7]
      exact HO5.out.alloc _
     have HB7:Hid (Below w.heap.size w w7):=by
      unfold Hid
      rw[hw7]
      exact HB5.out.alloc HB5.out.size _
     have HZ7:Hid (wr.heap.size<w7.heap.size):=by
      unfold Hid
      rw[hw7]
      simp
     generalize n+m=L at HO7 HNM hcap5 ⊢
     generalize wr.heap.size=G7 at HS7 HZ7 ⊢
     clear hw7 HO5 HB5
     go_wp2_with fail
     go_loopw [6,7] (fun st i wr=>∃ k gs c:Nat,st=.slice (some ⟨gs,0,none⟩) 8 c/\i=.int .i64 (64*(k:Int))/\k<=ch/\gs<wr.heap.size/\(∀ j,j<8->wr.cell? ⟨gs,j,none⟩=some (.int .i64 (shaS t k j)))/\OwnB wr w.heap.size (.slice (some ⟨g5,0,none⟩) L cap5) L (pad t)/\Below w.heap.size w wr) (fun _ i _=>ch*64-(intOf i).toNat)
     case atStart=>exact⟨0,G7,8,rfl,rfl,Nat.zero_le _,HZ7.out,HS7.out,HO7.out,HB7.out⟩
     case round =>
      obtain⟨k,gs,c,rfl,rfl,hk,hgs,hcs,hown,hbel⟩:=hrel
      have HC8:=hideA hcs
      have HO8:=hideA hown
      have HB8:=hideA hbel
      have HG8:=hideA hgs
      clear hcs hown hbel hgs
      by_cases hkc:k<ch
      ·have e1:64*(k:Int)<(L:Int):=by have:=HNM.out;omega
       have e2:(64*(k:Int)).toNat=64*k:=by omega
       have e3:(64*(k:Int)+64).toNat=64*k+64:=by omega
       have e4:64*k+64-64*k=64:=by omega
       have e5:IntKind.i64.wrap (64*(k:Int)+64)=64*(k:Int)+64:=by simp[IntKind.wrap,IntKind.bits,IntKind.signed];omega
       have e6:64*(k:Int)+64<=(cap5:Int):=by have:=HNM.out;omega
       have e7:0<=64*(k:Int)+64:=by omega
       have e8:0<=64*(k:Int):=by omega
       have e9:64*(k:Int)<=64*(k:Int)+64:=by omega
       have e10:¬cap5=64*k:=by have:=HNM.out;omega
       have hcv8:=HO8.out.piece (P:=Tryz.prog) (src:=168) (dst:=9) (64*k) 64 (cap5-64*k) (by have:=HNM.out;omega) (pad_lt t) Tryz.underlying168 Tryz.underlying5 Tryz.underlying9
       go_wp2_with fail
       refine(HBK.out (shaS t k) gs c (strF 64 (blkB t k)) wr (strF_size 64 _) HG8.out HC8.out (shaS_range t k)).mono ?_
       rintro e w9 ⟨g9,c9,rfl,hg9a,hg9b,hcl9,hb9⟩
       rw[blk_str]at hcl9
       have HC9:=hideA hcl9
       have HO9:=hideA (HO8.out.below hb9 (Nat.le_refl _))
       have HB9:=hideA (HB8.out.trans (hb9.mono HB8.out.size))
       have HG9:=hideA hg9b
       clear hcl9 hb9 hg9a hg9b
       go_wp2_with fail
       go_roundw
       case rel=>exact⟨k+1,g9,c9,rfl,by go_num,by omega,HG9.out,HC9.out,HO9.out,HB9.out⟩
       case measure=>simp[intOf];omega
      ·have e1:¬64*(k:Int)<(L:Int):=by have:=HNM.out;omega
       have HSK:Hid (shaS t k=shaS t (chunks t.size)):=by
        unfold Hid
        rw[<-HCH.out]
        congr 1
        have:=HNM.out
        omega
       go_wp2_with fail
       obtain⟨w8,hw8⟩:∃ x,x=wr:=⟨_,rfl⟩
       have HW8:=hideA hw8
       clear hw8
       have HE8:=hideA (own_empty wr wr.heap.size 5 (Nat.le_refl _))
       have HL8:=hideA ((Below.refl wr.heap.size wr).alloc (Nat.le_refl _) (.cells #[] 5))
       go_loopw [8,9] (fun v i wo=>∃ j:Nat,i=.int .i64 j/\j<=8/\wo.ownsRow w8.heap.size 5 1 v (4*j) (rowF .u8 (4*j) (fun q=>(outF (shaS t k) q:Nat))).toList/\Below w8.heap.size w8 wo) (fun _ i _=>8-(intOf i).toNat)
       case atStart =>
        refine⟨0,rfl,by omega,?_,?_⟩
        ·rw[HW8.out];exact HE8.out
        ·rw[HW8.out];exact HL8.out
       case round =>
        rw[<-HW8.out]at HC8 HO8 HB8 HG8
        obtain⟨j,rfl,hj,hown,hbel⟩:=hrel
        have HOj:=hideA hown
        have HBj:=hideA hbel
        by_cases hj8:j<8
        ·obtain⟨x,hx⟩:∃ x,x=shaS t k j:=⟨_,rfl⟩
         have cs:wr.cell? ⟨gs,j,none⟩=some (.int .i64 x):=by rw[hbel.cell (p:=⟨gs,j,none⟩) HG8.out,HC8.out j hj8,hx]
         have lj:(j:Int)<8:=by omega
         have HX:=hideA hx
         have hsz9:w8.heap.size<=wr.heap.size:=hbel.size
         clear hx hbel hown
         go_wp2_with (at_builtin;refine wpList_append_own _ rfl _ _ 168 rfl w8.heap.size 5 i0 (.int .u8 0) 1 1 Tryz.underlying168 hi hz0 hz1 hz2 rfl (by decide) _ _ _ rfl (HOj.out.alloc _) ⟨wr.heap.size,0,none⟩ 4 4 [.int .u8 (x/16777216%256),.int .u8 (x/65536%256),.int .u8 (x/256%256),.int .u8 (x%256)] rfl rfl (four_new wr _ _ _ _ _) (four_cell _ _ _ _) (by unfold maxLen;omega) (by omega) (by simp;omega) ?_;intro v6 w6 hO6 hg6 _;have HB6:=hideA (Nu.app_below HBj.out (Nat.le_refl _) HOj.out hg6);have HO6:=hideA hO6;clear hO6 hg6)
         go_roundw
         case rel =>
          refine⟨j+1,by go_num,by omega,?_,HB6.out⟩
          have e:=HO6.out
          rw[out_four (shaS t k) j _ _ _ _ (by rw[HX.out]) (by rw[HX.out]) (by rw[HX.out]) (by rw[HX.out])]at e
          rw[show 4*(j+1)=4*j+4 by omega]at e ⊢
          exact e
         case measure=>simp[intOf];omega
        ·have hown8:wr.ownsRow w8.heap.size 5 1 u8 32 (rowF .u8 32 (fun q=>(outF (shaS t k) q:Nat))).toList:=by
          have e:j=8:=by omega
          rw[e]at hown
          exact hown
         have hcv9:=own_str (P:=Tryz.prog) (src:=168) (dst:=9) hown8 (outF_lt _) Tryz.underlying168 Tryz.underlying5 Tryz.underlying9
         have HFB:=hideA (HB8.out.trans (hbel.mono HB8.out.size))
         clear hown hown8 hbel
         go_wp2_with fail
         go_ret
         refine⟨Nu.ret_strJ ?_,HFB.out⟩
         rw[HSK.out]
         rfl
  ·have em:((n:Int)%64==56)=false:=by simp;omega
   have HZ:Hid (0=pad t n):=by
    unfold Hid
    rw[pad_zero t n (by omega) (by rw[<-HCH.out];omega)]
   go_wp2_with (at_builtin;refine wpList_append_b rfl _ _ 168 rfl w.heap.size 5 i0 Tryz.underlying168 hi hz0 hz1 hz2 (.slice (some ⟨g,0,none⟩) n cap) n (pad t) rfl (HO3.out.alloc _) ⟨wr.heap.size,0,none⟩ 1 0 rfl (cell_one wr _ _) (by omega) (by have:=HB3.out.size;simp;omega) ?_;intro v4 w4 hO4 hg4;have HO4:=hideA (hO4.congr (fun j _=>pad_app t n 0 HZ.out j));have HB4:=hideA (app_own HB3.out HB3.out.size HO3.out hg4);clear hO4 hg4)
   obtain⟨g',cap',hv4,hcap4⟩:=HO4.out.slice
   subst hv4
   go_roundw
   case rel=>exact⟨n+1,HO4.out,by omega,by omega,HB4.out⟩
   case measure=>simp;omega
end Go.Proofs.YtikiihjabbmkcaaGreatDoor.Sh


/- What both Digest answer, and the law on it. -/
namespace Go.Proofs.YtikiihjabbmkcaaGreatDoor.Sh
open Go.RowKit
theorem all_any (t:ByteArray) (w:World) (ht:t.size<=1048576) :
  Calls Tryz.prog 152 #[.string t] w fun e w'=>e=.returned (.string (sha t))/\Below w.heap.size w w' :=
 all_of (fun s gs c t w h1 h2 h3 h4=>block_any s gs c t w h1 h2 h3 h4) t w ht
def digestV (t:ByteArray):ByteArray:=if t.size<=8000 then sha t else ⟨#[]⟩
theorem digest_impl (t:ByteArray) (w:World) (ht:t.size<=maxLen) (hV:Vars w) :
  Calls Tryz.prog 193 #[.string t] w fun e w'=>e=.returned (.string (digestV t))/\Below w.heap.size w w':=by
 unfold maxLen at ht
 have HV:=hideS hV
 clear hV
 by_cases h:8000<t.size
 ·have HP:=hideS (show digestV t=⟨#[]⟩ by unfold digestV;rw[if_neg (by omega)])
  go_enter Tryz.func193,Tryz.ntmps193
  go_wp2_with fail
  go_ret
  exact⟨Nu.ret_strJ HP.out.symm,Below.refl _ _⟩
 ·have HP:=hideS (show digestV t=sha t by unfold digestV;rw[if_pos (by omega)])
  go_enter Tryz.func193,Tryz.ntmps193
  go_wp2_with fail
  refine(digestOf_any t w (by omega) HV.out).mono ?_
  rintro e w1 ⟨rfl,hb1⟩
  go_wp2_with fail
  go_ret
  exact⟨Nu.ret_strJ HP.out.symm,hb1⟩
end Go.Proofs.YtikiihjabbmkcaaGreatDoor.Sh


/- What both LeafHash and both NodeHash answer. -/
namespace Go.Proofs.YtikiihjabbmkcaaGreatDoor.Sh
open Go.RowKit
theorem below3 {w w1 w2 w3:World} (h1:Below w.heap.size w w1) (h2:Below w1.heap.size w1 w2) (h3:Below w2.heap.size w2 w3):Below w.heap.size w w3 :=
 have a:=h1.trans (h2.mono h1.size)
 a.trans (h3.mono a.size)
def leafV (t:ByteArray):ByteArray:=sha (⟨#[0]⟩++t)
def nodeV (a b:ByteArray):ByteArray:=sha (⟨#[1]⟩++a++b)
theorem nodeV_size (a b:ByteArray):(nodeV a b).size=32:=sha_size _
theorem mark0_size (t:ByteArray):((⟨#[0]⟩:ByteArray)++t).size=1+t.size:=by
 rw[ByteArray.size_append]
 rfl
theorem mark1_size (t:ByteArray):((⟨#[1]⟩:ByteArray)++t).size=1+t.size:=by
 rw[ByteArray.size_append]
 rfl
theorem l03Leaf_any (t:ByteArray) (w:World) (ht:t.size<=8000) :
  Calls Tryz.prog 124 #[.string t] w fun e w'=>e=.returned (.string (leafV t))/\Below w.heap.size w w':=by
 go_enter Tryz.func124,Tryz.ntmps124
 go_wp2_with fail
 refine(all_any _ w (by rw[mark0_size];omega)).mono ?_
 rintro e w1 ⟨rfl,hb1⟩
 go_wp2_with fail
 go_ret
 exact⟨rfl,hb1⟩
theorem l03Node_any (a b:ByteArray) (w:World) (ha:a.size<=8000) (hb:b.size<=8000) :
  Calls Tryz.prog 151 #[.string a,.string b] w fun e w'=>e=.returned (.string (nodeV a b))/\Below w.heap.size w w':=by
 go_enter Tryz.func151,Tryz.ntmps151
 go_wp2_with fail
 refine(all_any _ w (by rw[ByteArray.size_append,mark1_size];omega)).mono ?_
 rintro e w1 ⟨rfl,hb1⟩
 go_wp2_with fail
 go_ret
 exact⟨rfl,hb1⟩
def leafR (t:ByteArray):ByteArray:=if 100<t.size then ⟨#[]⟩ else leafV t
theorem leafR_no (t:ByteArray) (h:100<t.size):leafR t=⟨#[]⟩:=if_pos h
theorem leafR_yes (t:ByteArray) (h:¬100<t.size):leafR t=leafV t:=if_neg h
def nodeR (a b:ByteArray):ByteArray:=if a.size=32/\b.size=32 then nodeV a b else ⟨#[]⟩
theorem nodeR_no (a b:ByteArray) (h:¬(a.size=32/\b.size=32)):nodeR a b=⟨#[]⟩:=if_neg h
theorem nodeR_yes (a b:ByteArray) (h:a.size=32) (h':b.size=32):nodeR a b=nodeV a b:=if_pos ⟨h,h'⟩
theorem leaf_impl (t:ByteArray) (w:World) (ht:t.size<=maxLen) (hV:Vars w) :
  Calls Tryz.prog 160 #[.string t] w fun e w'=>e=.returned (.string (leafR t))/\Below w.heap.size w w':=by
 have HT:=hideS ht
 unfold maxLen at ht
 have HV:=hideS hV
 have h2:=hV.two
 clear hV
 by_cases h:100<t.size
 ·have HP:=hideS (leafR_no t h)
  go_enter Tryz.func160,Tryz.ntmps160
  go_wp2_with fail
  go_ret
  exact⟨Nu.ret_strJ HP.out.symm,Below.refl _ _⟩
 ·have HP:=hideS (leafR_yes t h)
  have HD:=hideS (show digestV (⟨#[0]⟩++t)=leafV t by unfold digestV leafV;rw[if_pos (by rw[mark0_size];omega)])
  go_enter Tryz.func160,Tryz.ntmps160
  go_wp2_with fail
  refine(Nu.join_any ⟨#[0]⟩ t w (by rw[show (⟨#[0]⟩:ByteArray).size=1 from rfl];omega)).mono ?_
  rintro e w1 ⟨rfl,hb1⟩
  go_wp2_with fail
  refine(digest_impl _ _ (by rw[mark0_size];unfold maxLen;omega) (HV.out.below hb1 h2)).mono ?_
  rintro e w2 ⟨rfl,hb2⟩
  have HB:=hideS (hb1.trans (hb2.mono hb1.size))
  clear hb1 hb2
  go_wp2_with fail
  go_ret
  exact⟨Nu.ret_strJ (HD.out.trans HP.out.symm),HB.out⟩
theorem node_impl (a b:ByteArray) (w:World) (hV:Vars w) :
  Calls Tryz.prog 237 #[.string a,.string b] w fun e w'=>e=.returned (.string (nodeR a b))/\Below w.heap.size w w':=by
 have HV:=hideS hV
 have h2:=hV.two
 clear hV
 by_cases h:a.size=32
 ·by_cases h':b.size=32
  ·have HP:=hideS (nodeR_yes a b h h')
   have HD:=hideS (show digestV (⟨#[1]⟩++(a++b))=nodeV a b by unfold digestV nodeV;rw[if_pos (by rw[mark1_size,ByteArray.size_append];omega),ByteArray.append_assoc])
   go_enter Tryz.func237,Tryz.ntmps237
   go_wp2_with fail
   refine(Nu.join_any a b w (by omega)).mono ?_
   rintro e w1 ⟨rfl,hb1⟩
   go_wp2_with fail
   refine(Nu.join_any ⟨#[1]⟩ (a++b) _ (by rw[show (⟨#[1]⟩:ByteArray).size=1 from rfl,ByteArray.size_append];omega)).mono ?_
   rintro e w2 ⟨rfl,hb2⟩
   go_wp2_with fail
   refine(digest_impl _ _ (by rw[mark1_size,ByteArray.size_append];unfold maxLen;omega) ((HV.out.below hb1 h2).below hb2 (by have:=hb1.size;omega))).mono ?_
   rintro e w3 ⟨rfl,hb3⟩
   have HB:=hideS (below3 hb1 hb2 hb3)
   clear hb1 hb2 hb3
   go_wp2_with fail
   go_ret
   exact⟨Nu.ret_strJ (HD.out.trans HP.out.symm),HB.out⟩
  ·have HP:=hideS (nodeR_no a b (fun x=>h' x.2))
   go_enter Tryz.func237,Tryz.ntmps237
   go_wp2_with fail
   go_ret
   exact⟨Nu.ret_strJ HP.out.symm,Below.refl _ _⟩
 ·have HP:=hideS (nodeR_no a b (fun x=>h x.1))
  go_enter Tryz.func237,Tryz.ntmps237
  go_wp2_with fail
  go_ret
  exact⟨Nu.ret_strJ HP.out.symm,Below.refl _ _⟩
end Go.Proofs.YtikiihjabbmkcaaGreatDoor.Sh

