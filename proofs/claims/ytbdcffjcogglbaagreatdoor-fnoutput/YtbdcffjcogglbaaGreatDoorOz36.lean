import Derived.Test.YtbdcffjcogglbaaGreatDoorOz40
import Derived.Lib.SmallJoins
set_option maxRecDepth 100000
set_option maxHeartbeats 8000000
namespace Go.Proofs.YtbdcffjcogglbaaGreatDoor
open Go.RowKit
open Go.Proofs.Tryz
namespace Bi
open In (Ints)
open St (IsS)
open Nu (ret_strJ own_string bv)
theorem own_lenB {w:World} {B m n:Nat} {e:TypeId} {v:Value} {xs:List Value} (h:w.ownsRow B e 1 v m xs) (hm:m=n):w.ownsRow B e 1 v n xs:=by rw[<-hm];exact h
theorem l04Put_any (l s:List Int) (a a':Option Addr) (cap cap':Nat) (w:World) (hl:Ints w w.heap.size a l) (hs:Ints w w.heap.size a' s) (hm:¬400<s.length) (hw:whole l=true) (hok:∀ x∈s,okS l x) :
  Calls prog 101 #[.slice a l.length cap,.slice a' s.length cap'] w fun e w'=>e=.returned (.string ⟨(putL l s).toArray⟩)/\Below w.heap.size w w':=by
 obtain⟨i0,hi0,hz0,hz1,hz2⟩:=info_parts Sb.builderX.infoByte;have HC:=hideB (codes_spec l a cap w.heap.size w hl nl (whole_right hw));have HS:=hideB hs;have HK:=hideB (whole_ok hw);have hn:=whole_len hw;have HCL:=hideB (codesV_length l);have HOK:=hideB (fun (j:Nat) (hj:j<s.length)=>hok _ (List.getElem_mem hj));clear hl hs hw hok;obtain⟨n,hln⟩:∃ n,n=l.length:=⟨_,rfl⟩;obtain⟨m,hms⟩:∃ m,m=s.length:=⟨_,rfl⟩;have HLN:=hideB hln;have HMS:=hideB hms;rw[<-hln]at hn HC HCL ⊢;rw[<-hms]at hm ⊢;clear hln hms;go_enter func101,ntmps101
 go_wp2_with fail
 refine HC.o.mono ?_;rintro e w1 ⟨rfl,hi1,hb1⟩;have X1:=hideB hi1;have B1:=hideB hb1;have z1:w.heap.size<w1.heap.size:=hi1.lt;clear hi1 hb1
 go_wp2_with fail
 go_loopw [7,6] (fun i v wr=>∃ k:Nat,i=.int .i64 k/\k<=m/\wr.ownsRow w1.heap.size 5 1 v (putL l (s.take k)).length (Lib.byteCells (putL l (s.take k)))/\Below w1.heap.size w1 wr) (fun i _ _=>m-(intOf i).toNat)
 case atStart=>exact⟨0,rfl,Nat.zero_le _,World.ownsRow_made _ _ _ nl (by decide) rfl,(Below.refl _ _).alloc nl _⟩
 case round =>
  obtain⟨k,rfl,hk,hown,hbel⟩:=hrel;have HO:=hideB hown;have GB:=hideB hbel;have hbz:=hbel.size;clear hown hbel;by_cases hlt:k<m
  ·have hkl:k<s.length:=by rw[<-HMS.o];exact hlt
   obtain⟨b,off,rfl,hb,hc⟩:=(HS.o.below (B1.o.trans (GB.o.mono (Nat.le_of_lt z1)))).some (by omega);have ci:=hc k hkl;have HM:=hideB (putL_more (l:=l) hkl);have ho:=HOK.o k hkl;obtain⟨x,hx⟩:∃ x,x=s[k]:=⟨_,rfl⟩;rw[<-hx]at ci HM ho;clear hc hx;obtain⟨i,rfl⟩:∃ i:Nat,x=i:=⟨x.toNat,by have:=ho.1;omega⟩
   have hin:i<n:=by have h1:=ho.2.1;have h2:=HLN.o;omega
   have hiv:i<(codesV l).length:=by rw[HCL.o];omega
   have cc:=(X1.o.below GB.o z1).cell hiv;rw[codes_get l HK.o i hiv]at cc;have hcl:=codeOf_le l HK.o i;obtain⟨c,hcc⟩:∃ c,c=codeOf l i:=⟨_,rfl⟩;have HCC:=hideB hcc;rw[<-hcc]at cc hcl;clear hcc ho;obtain⟨q,hq⟩:∃ q,q=(putL l (s.take k)).length:=⟨_,rfl⟩
   have hqb:q<=4800:=by
    have h1:=putL_le l HK.o (s.take k);rw[List.length_take]at h1;omega
   have HNX:Hid (Lib.byteCells (putL l (s.take k))++Lib.strCells c=Lib.byteCells (putL l (s.take (k+1)))):=by
    unfold Hid;rw[HM.o,Lib.byteCells_append,Lib.strCells_eq,HCC.o];rfl
   have HNL:Hid (q+c.size=(putL l (s.take (k+1))).length):=by
    unfold Hid;rw[HM.o,List.length_append,hq,HCC.o];rfl
   have hown:=HO.o;rw[<-hq]at hown;clear hq
   go_wp2_with (at_builtin;refine Lib.wpList_append_own_string _ rfl _ _ 22 9 rfl w1.heap.size 5 i0 underlying22 underlying9 hi0 hz0 hz1 hz2 _ _ _ rfl hown c rfl ?c3 ?c4 ?c5 ?_)
   case c3=>unfold maxLen;omega
   case c4=>omega
   case c5=>omega
   intro v' w2 hown' hgrow _;rw[HNX.o]at hown';have R2:=hideB (own_lenB hown' HNL.o);have B2:=hideB (GB.o.grown hgrow (by omega) (fun k hk=>(hown.lt k hk).1));clear hown' hgrow hown
   go_wp2_with fail
   go_roundw
   case rel=>exact⟨k+1,by go_num,by omega,R2.o,B2.o⟩
   case measure=>simp[intOf];omega
  ·have HE:Hid (putL l (s.take k)=putL l s):=by
    unfold Hid;rw[List.take_of_length_le (by have:=HMS.o;omega)]
   have hcv:=own_string (P:=prog) (src:=22) (dst:=9) (putL l (s.take k)) HO.o underlying22 underlying5 underlying9;rw[HE.o]at hcv
   go_wp2_with fail
   go_ret;exact⟨rfl,B1.o.trans (GB.o.mono (Nat.le_of_lt z1))⟩
end Bi
namespace Ze
open In (Ints OwnI IsO one_newI one_cellI app_one)
open In.Tryz (infoI2)
theorem zerosOf_spec (l:List Int) (a:Option Addr) (cap B:Nat) (w:World) (hi:Ints w B a l) (hB:B<=w.heap.size) (hn:l.length<=1048576) :
  Calls prog 97 #[.slice a l.length cap] w fun e w'=>∃ v,e=.returned v/\OwnI w' w.heap.size v (zerosR l)/\Below w.heap.size w w':=by
 obtain⟨i0,hi0,hz0,hz1,hz2⟩:=info_parts infoI2;have hb0:Below w.heap.size w (w.alloc (.cells #[] 2)):=(Below.refl _ _).alloc nl _;have HU:=hideZ (nums_spec l 255 a cap w.heap.size (w.alloc (.cells #[] 2)) ((hi.mono hB).below hb0) hn);have HW:=hideZ (OwnI.empty w);have HB0:=hideZ hb0
 cases hu:numsR l 255 with
 |false =>
  rw[zerosR_no hu];rw[hu]at HU;clear hi hu hb0;generalize l.length=n at HU hn ⊢;go_enter func97,ntmps97
  go_wp2_with fail
  refine HU.o.mono ?_;rintro e w' ⟨rfl,hw⟩;subst w'
  go_wp2_with fail
  go_ret;exact⟨_,rfl,HW.o,HB0.o⟩
 |true =>
  rw[zerosR_yes hu];have HUP:=hideZ (upTo_yes (numsR_yes hu).2);have hlong:=(numsR_yes hu).1;rw[hu]at HU;have HS:=hideZ (hi.mono hB);clear hi hu hb0;obtain⟨n,hln⟩:∃ n,n=l.length:=⟨_,rfl⟩;have HLN:=hideZ hln;rw[<-hln]at HU hlong ⊢;clear hln hn;go_enter func97,ntmps97
  go_wp2_with fail
  refine HU.o.mono ?_;rintro e w' ⟨rfl,hw⟩;subst w'
  go_wp2_with fail
  go_loopw [5,3,4] (fun i u m wr=>∃ k z:Nat,i=.int .i64 k/\m=.int .i64 z/\k<=n/\z=(zst (l.take k)).2/\OwnI wr w.heap.size u (zst (l.take k)).1/\Below w.heap.size w wr) (fun i _ _ _=>n-(intOf i).toNat)
  case atStart=>exact⟨0,0,rfl,rfl,Nat.zero_le _,rfl,HW.o,HB0.o⟩
  case round =>
   obtain⟨k,z,rfl,rfl,hk,hz,hown,hbel⟩:=hrel;have hzl:=zst_len (l.take k);rw[List.length_take]at hzl
   have hzk:(zst (l.take k)).1.length+z<=k:=by omega
   have GB:=hideZ hbel;have HZ:=hideZ hz;have hsz:=hbel.size;have hrl:=zrun_len z;obtain⟨a',cap',rfl,_,_⟩:=hown.ints;obtain⟨lk,hlk⟩:∃ lk,lk=(zst (l.take k)).1:=⟨_,rfl⟩;rw[<-hlk]at hown hzk ⊢;have G1:=hideZ hown;have HLK:=hideZ hlk;clear hz hown hbel hlk hzl;have HRS:=hideZ (fun W=>run_spec z W (by omega));by_cases hlt:k<n
   ·have hkl:k<l.length:=by rw[<-HLN.o];exact hlt
    obtain⟨b,off,rfl,hb,hc⟩:=(HS.o.below GB.o).some (by omega);have ci:=hc k hkl;have hx255:=HUP.o _ (List.getElem_mem hkl);obtain⟨x,hx⟩:∃ x,x=l[k]:=⟨_,rfl⟩;have HX:=hideZ hx;rw[<-hx]at ci hx255;clear hc hx;by_cases h0:x=0
    ·have HZ1:Hid (zst (l.take (k+1))=(lk,z+1)):=by
      unfold Hid;rw[zst_zero hkl (by rw[<-HX.o];exact h0),HZ.o,HLK.o]
     have hbx:(x==0)=true:=beq_iff_eq.2 h0;clear h0;(go_wp2_with fail)
     go_roundw
     case rel=>exact⟨k+1,z+1,by go_num,by go_num,by omega,by rw[HZ1.o],by rw[HZ1.o];exact G1.o,GB.o⟩
     case measure=>simp[intOf];omega
    ·have HZ1:Hid (zst (l.take (k+1))=(lk++zrun z++[x+1],0)):=by
      unfold Hid;rw[zst_other hkl (by rw[<-HX.o];exact h0),HZ.o,HX.o,HLK.o]
     have hbx:(x==0)=false:=beq_eq_false_iff_ne.2 h0;clear h0;(go_wp2_with fail);refine(HRS.o wr).mono ?_;rintro e w4 ⟨v4,rfl,hown4,hne4,hbel4⟩;have G4:=hideZ (G1.o.below hbel4);have B4:=hideZ (GB.o.trans (hbel4.mono hsz));have z4:=hbel4.size;obtain⟨g4,cap4,rfl,hg4,hg4',ho4⟩:=own_some hown4 hne4;have O4:=hideZ ho4;clear hown4 hbel4 hne4 ho4;obtain⟨rl,hrl2⟩:∃ rl,rl=zrun z:=⟨_,rfl⟩;rw[<-hrl2]at O4 hrl HZ1 ⊢;clear hrl2 HRS
     go_wp2_with (at_builtin;refine wpList_append_own _ rfl (.tmp 24) (.tmp 26) 69 rfl w.heap.size 2 i0 (.int .i64 0) 1 8 underlying69 hi0 hz0 hz1 hz2 rfl (by decide) _ _ _ rfl G4.o ⟨g4,0,none⟩ _ cap4 (rl.map (Value.int .i64)) rfl (by simp) (own_news O4.o) (own_cells rl) (by unfold maxLen;omega) (by omega) (by omega) ?_)
     intro v' w5 hown' hgrow _;have hown5:=OwnI.joined hown';have b5:=app_row B4.o (by omega) nl G4.o hgrow
     have HL4:Hid ((lk++rl).length<=400):=by
      unfold Hid;rw[List.length_append];omega
     obtain⟨l4,hl4⟩:∃ l4,l4=lk++rl:=⟨_,rfl⟩;rw[<-hl4]at hown5 HZ1 HL4;have N5:=hideZ hown5;have B5:=hideZ b5;have z5:=b5.size;obtain⟨a5,cap5,rfl,_,_⟩:=hown5.ints
     have c5:w5.cell? ⟨b,off+k,none⟩=some (.int .i64 x):=by
      have h1:=((HS.o.below b5).some (by omega:0<l.length));obtain⟨b',off',e1,_,hc'⟩:=h1
      cases e1
      rw[hc' k hkl,HX.o]
     clear hown' hgrow hown5 b5 hl4 ci
     go_wp2_with (at_builtin;refine wpList_append_own _ rfl (.tmp 28) (.tmp 34) 69 rfl w.heap.size 2 i0 (.int .i64 0) 1 8 underlying69 hi0 hz0 hz1 hz2 rfl (by decide) _ _ _ rfl (OwnI.alloc N5.o _) ⟨w5.heap.size,0,none⟩ 1 1 [.int .i64 (x+1)] rfl rfl (one_newI _ _ _) (one_cellI _) (by unfold maxLen;have:=HL4.o;omega) (by have:=HL4.o;omega) (by simp;omega) ?_)
     intro v' w6 hown' hgrow _;have N6:=hideZ (OwnI.snoc hown');have b6:=hideZ (app_one B5.o (by omega) nl N5.o hgrow);clear hown' hgrow;(go_wp2_with fail)
     go_roundw
     case rel=>exact⟨k+1,0,by go_num,rfl,by omega,by rw[HZ1.o],by rw[HZ1.o];exact N6.o,b6.o⟩
     case measure=>simp[intOf];omega
   ·have hkn:k=l.length:=by have:=HLN.o;omega
    have HT:Hid (l.take k=l):=by
     unfold Hid;rw[hkn,List.take_length]
    have HR:Hid ((zst l).1++zrun (zst l).2=lk++zrun z):=by
     unfold Hid;rw[HLK.o,HZ.o,HT.o]
    clear hkn;(go_wp2_with fail);refine(HRS.o wr).mono ?_;rintro e w4 ⟨v4,rfl,hown4,hne4,hbel4⟩;have G4:=hideZ (G1.o.below hbel4);have B4:=hideZ (GB.o.trans (hbel4.mono hsz));have z4:=hbel4.size;obtain⟨g4,cap4,rfl,hg4,hg4',ho4⟩:=own_some hown4 hne4;have O4:=hideZ ho4;clear hown4 hbel4 hne4 ho4;obtain⟨rl,hrl2⟩:∃ rl,rl=zrun z:=⟨_,rfl⟩;rw[<-hrl2]at O4 hrl HR ⊢;clear hrl2 HRS
    go_wp2_with (at_builtin;refine wpList_append_own _ rfl (.tmp 36) (.tmp 38) 69 rfl w.heap.size 2 i0 (.int .i64 0) 1 8 underlying69 hi0 hz0 hz1 hz2 rfl (by decide) _ _ _ rfl G4.o ⟨g4,0,none⟩ _ cap4 (rl.map (Value.int .i64)) rfl (by simp) (own_news O4.o) (own_cells rl) (by unfold maxLen;omega) (by omega) (by omega) ?_)
    intro v' w5 hown' hgrow _;have N5:=hideZ (OwnI.joined hown');have B5:=hideZ (app_row B4.o (by omega) nl G4.o hgrow);clear hown' hgrow;(go_wp2_with fail);go_ret;exact⟨_,rfl,by rw[HR.o];exact N5.o,B5.o⟩
end Ze
namespace Sh
theorem hideA {p:Prop} (h:p):Hid p:=h
theorem app_own {B:Nat} {w wr w1:World} {v:Value} {n:Nat} {f:Nat->Nat} {o:Obj} (hbel:Below B w wr) (hB:B<=wr.heap.size) (hown:OwnB wr B v n f) (hgrow:(wr.alloc o).grownBy w1 v.ownBlock):Below B w w1:=by
 obtain⟨g,cap,rfl,hg,_⟩:=hown;refine(hbel.alloc hB o).grown hgrow (by simp;omega) ?_;intro k hk;simp[Value.ownBlock]at hk;omega
theorem four_cell (a b c d:Int):∀ u∈[Value.int .u8 a,Value.int .u8 b,Value.int .u8 c,Value.int .u8 d],u.oneCell'=true:=by
 intro u hu;simp at hu
 rcases hu with rfl|rfl|rfl|rfl<;>rfl
theorem cell_one (W:World) (x:Value) (t:TypeId):(W.alloc (.cells #[x] t)).cell? ((⟨W.heap.size,0,none⟩:Addr).add 0)=some x:=one_new W x t 0 x rfl
theorem all_of (hblk:∀ (s:Nat->Int) (gs c:Nat) (t:ByteArray) (w:World),t.size=64->gs<w.heap.size->(∀ j,j<8->w.cell? ⟨gs,j,none⟩=some (.int .i64 (s j)))->(∀ j,0<=s j/\s j<4294967296) ->
   Calls prog 114 #[.slice (some ⟨gs,0,none⟩) 8 c,.string t] w fun e w'=>∃ g c',e=.returned (.slice (some ⟨g,0,none⟩) 8 c')/\w.heap.size<=g/\g<w'.heap.size/\(∀ j,j<8->w'.cell? ⟨g,j,none⟩=some (.int .i64 (blk (bt t) s j)))/\Below w.heap.size w w')
  (t:ByteArray) (w:World) (ht:t.size<=1048576) :
  Calls prog 79 #[.string t] w fun e w'=>e=.returned (.string (sha t))/\Below w.heap.size w w':=by
 have HBK:=hideA hblk;clear hblk;obtain⟨i0,hi,hz0,hz1,hz2⟩:=info_parts Nu.Tryz.infoJ5;obtain⟨ch,hch⟩:∃ c,c=chunks t.size:=⟨_,rfl⟩;have hr:=chunks_room t.size;have hti:=chunks_tight t.size;rw[<-hch]at hr hti;have HCH:=hideA hch;clear hch
 obtain⟨V,w1,hcv,hO,hB⟩:∃ V w1,(convert 9 22 (.string t)).run prog w=.ok V w1/\OwnB w1 w.heap.size V t.size (bt t)/\Below w.heap.size w w1 :=
  ⟨_,_,run_bytes_of_string (P:=prog) w 9 22 5 t underlying9 underlying22 underlying5,own_of_string w w.heap.size t 5 (by unfold maxLen;omega) nl,(Below.refl _ _).drew.alloc nl _⟩
 have HO:=hideA hO;have HB:=hideA hB;clear hO hB;go_enter func79,ntmps79
 go_wp2_with (at_builtin;refine wpList_append_b rfl _ _ 22 rfl w.heap.size 5 i0 underlying22 hi hz0 hz1 hz2 V t.size (bt t) rfl (HO.o.alloc _) ⟨w1.heap.size,0,none⟩ 1 128 rfl (cell_one w1 _ _) (by omega) (by have:=HB.o.size;simp;omega) ?_;intro v2 w2 hO2 hg2)
 have HO2:=hideA (hO2.congr (fun j hj=>pad_first t j hj));have HB2:=hideA (app_own HB.o HB.o.size HO.o hg2);clear hO2 hg2 HO HB
 go_loopw [3] (fun v wr=>∃ n:Nat,OwnB wr w.heap.size v n (pad t)/\t.size+1<=n/\n+8<=ch*64/\Below w.heap.size w wr) (fun v _=>match v with|.slice _ n _=>ch*64-n|_=>0)
 case atStart=>exact⟨t.size+1,HO2.o,by omega,by omega,HB2.o⟩
 case round =>
  obtain⟨n,hown,hn1,hn2,hbel⟩:=hrel;have HO3:=hideA hown;have HB3:=hideA hbel;obtain⟨g,cap,hv,hcap⟩:=hown.slice;subst hv;clear hown hbel;by_cases hmod:n%64=56
  ·have HN:=hideA (show n=ch*64-8 by omega)
   have em:((n:Int)%64==56)=true:=by simp;omega
   have em2:((n:Int)%64 != 56)=false:=by simp;omega
   go_wp2_with fail
   go_loopw [3,5] (fun v i wr=>∃ m:Nat,i=.int .i64 (56-8*(m:Int))/\m<=8/\OwnB wr w.heap.size v (n+m) (pad t)/\Below w.heap.size w wr) (fun _ i _=>(intOf i+8).toNat)
   case atStart=>exact⟨0,rfl,by omega,HO3.o,HB3.o⟩
   case round =>
    obtain⟨m,rfl,hm,hown,hbel⟩:=hrel;have HO5:=hideA hown;have HB5:=hideA hbel;obtain⟨g5,cap5,hv,hcap5⟩:=hown.slice;subst hv;clear hown hbel;by_cases hm8:m<8
    ·have q1:IntKind.u64.wrap (56-8*(m:Int))=56-8*(m:Int):=by simp[IntKind.wrap,IntKind.bits,IntKind.signed];omega
     have q2:(56-8*(m:Int)).toNat=56-8*m:=by omega
     have q3:0<=56-8*(m:Int):=by omega
     obtain⟨x,hx⟩:∃ x,x=t.size*8/2 ^ (56-8*m)%256:=⟨_,rfl⟩
     have HV:Hid (8*(t.size:Int)/2 ^ (56-8*m)%256=(x:Int)):=by
      unfold Hid;rw[hx,Nat.mul_comm t.size 8];simp
     have HP:Hid (x=pad t (n+m)):=by
      unfold Hid;rw[hx,HN.o,HCH.o,pad_len t m hm8]
     clear hx
     go_wp2_with (at_builtin;refine wpList_append_b rfl _ _ 22 rfl w.heap.size 5 i0 underlying22 hi hz0 hz1 hz2 (.slice (some ⟨g5,0,none⟩) (n+m) cap5) (n+m) (pad t) rfl (HO5.o.alloc _) ⟨wr.heap.size,0,none⟩ 1 x rfl (by rw[cell_one];exact congrArg some (congrArg (Value.int .u8) HV.o)) (by omega) (by have:=HB5.o.size;simp;omega) ?_;intro v6 w6 hO6 hg6;have HO6:=hideA (hO6.congr (fun j _=>pad_app t (n+m) x HP.o j));have HB6:=hideA (app_own HB5.o HB5.o.size HO5.o hg6);clear hO6 hg6)
     go_roundw
     case rel=>exact⟨m+1,by go_num,by omega,HO6.o,HB6.o⟩
     case measure=>simp[intOf];omega
    ·have HNM:Hid (n+m=ch*64):=by
      have:=HN.o
      unfold Hid;omega
     have q3:¬0<=56-8*(m:Int):=by omega
     (go_wp2_with fail);refine(start_any wr).mono ?_;rintro e w7 ⟨rfl,hw7⟩
     have HS7:Hid (∀ j,j<8->w7.cell? ⟨wr.heap.size,j,none⟩=some (.int .i64 (shaS t 0 j))):=by
      intro j hj;rw[hw7];exact(IsB.new wr 2 .i64 8 firstF).cell hj
     have HO7:Hid (OwnB w7 w.heap.size (.slice (some ⟨g5,0,none⟩) (n+m) cap5) (n+m) (pad t)):=by
      unfold Hid;rw[hw7];exact HO5.o.alloc _
     have HB7:Hid (Below w.heap.size w w7):=by
      unfold Hid;rw[hw7];exact HB5.o.alloc HB5.o.size _
     have HZ7:Hid (wr.heap.size<w7.heap.size):=by
      unfold Hid;rw[hw7];simp
     generalize n+m=L at HO7 HNM hcap5 ⊢;generalize wr.heap.size=G7 at HS7 HZ7 ⊢;clear hw7 HO5 HB5;(go_wp2_with fail)
     go_loopw [6,7] (fun st i wr=>∃ k gs c:Nat,st=.slice (some ⟨gs,0,none⟩) 8 c/\i=.int .i64 (64*(k:Int))/\k<=ch/\gs<wr.heap.size/\(∀ j,j<8->wr.cell? ⟨gs,j,none⟩=some (.int .i64 (shaS t k j)))/\OwnB wr w.heap.size (.slice (some ⟨g5,0,none⟩) L cap5) L (pad t)/\Below w.heap.size w wr) (fun _ i _=>ch*64-(intOf i).toNat)
     case atStart=>exact⟨0,G7,8,rfl,rfl,Nat.zero_le _,HZ7.o,HS7.o,HO7.o,HB7.o⟩
     case round =>
      obtain⟨k,gs,c,rfl,rfl,hk,hgs,hcs,hown,hbel⟩:=hrel;have HC8:=hideA hcs;have HO8:=hideA hown;have HB8:=hideA hbel;have HG8:=hideA hgs;clear hcs hown hbel hgs;by_cases hkc:k<ch
      ·have e1:64*(k:Int)<(L:Int):=by have:=HNM.o;omega
       have e2:(64*(k:Int)).toNat=64*k:=by omega
       have e3:(64*(k:Int)+64).toNat=64*k+64:=by omega
       have e4:64*k+64-64*k=64:=by omega
       have e5:IntKind.i64.wrap (64*(k:Int)+64)=64*(k:Int)+64:=by simp[IntKind.wrap,IntKind.bits,IntKind.signed];omega
       have e6:64*(k:Int)+64<=(cap5:Int):=by have:=HNM.o;omega
       have e7:0<=64*(k:Int)+64:=by omega
       have e8:0<=64*(k:Int):=by omega
       have e9:64*(k:Int)<=64*(k:Int)+64:=by omega
       have e10:¬cap5=64*k:=by have:=HNM.o;omega
       have hcv8:=HO8.o.piece (P:=prog) (src:=22) (dst:=9) (64*k) 64 (cap5-64*k) (by have:=HNM.o;omega) (pad_lt t) underlying22 underlying5 underlying9;(go_wp2_with fail);refine(HBK.o (shaS t k) gs c (strF 64 (blkB t k)) wr (strF_size 64 _) HG8.o HC8.o (shaS_range t k)).mono ?_;rintro e w9 ⟨g9,c9,rfl,hg9a,hg9b,hcl9,hb9⟩;rw[blk_str]at hcl9;have HC9:=hideA hcl9;have HO9:=hideA (HO8.o.below hb9 nl);have HB9:=hideA (HB8.o.trans (hb9.mono HB8.o.size));have HG9:=hideA hg9b;clear hcl9 hb9 hg9a hg9b;(go_wp2_with fail)
       go_roundw
       case rel=>exact⟨k+1,g9,c9,rfl,by go_num,by omega,HG9.o,HC9.o,HO9.o,HB9.o⟩
       case measure=>simp[intOf];omega
      ·have e1:¬64*(k:Int)<(L:Int):=by have:=HNM.o;omega
       have HSK:Hid (shaS t k=shaS t (chunks t.size)):=by
        unfold Hid;rw[<-HCH.o]
        congr 1
        have:=HNM.o
        omega
       (go_wp2_with fail);obtain⟨w8,hw8⟩:∃ x,x=wr:=⟨_,rfl⟩;have HW8:=hideA hw8;clear hw8;have HE8:=hideA (own_empty wr wr.heap.size 5 nl);have HL8:=hideA ((Below.refl wr.heap.size wr).alloc nl (.cells #[] 5))
       go_loopw [8,9] (fun v i wo=>∃ j:Nat,i=.int .i64 j/\j<=8/\wo.ownsRow w8.heap.size 5 1 v (4*j) (rowF .u8 (4*j) (fun q=>(outF (shaS t k) q:Nat))).toList/\Below w8.heap.size w8 wo) (fun _ i _=>8-(intOf i).toNat)
       case atStart =>
        refine⟨0,rfl,by omega,?_,?_⟩
        ·rw[HW8.o];exact HE8.o
        ·rw[HW8.o];exact HL8.o
       case round =>
        rw[<-HW8.o]at HC8 HO8 HB8 HG8;obtain⟨j,rfl,hj,hown,hbel⟩:=hrel;have HOj:=hideA hown;have HBj:=hideA hbel;by_cases hj8:j<8
        ·obtain⟨x,hx⟩:∃ x,x=shaS t k j:=⟨_,rfl⟩
         have cs:wr.cell? ⟨gs,j,none⟩=some (.int .i64 x):=by rw[hbel.cell (p:=⟨gs,j,none⟩) HG8.o,HC8.o j hj8,hx]
         have lj:(j:Int)<8:=by omega
         have HX:=hideA hx;have hsz9:w8.heap.size<=wr.heap.size:=hbel.size;clear hx hbel hown
         go_wp2_with (at_builtin;refine wpList_append_own _ rfl _ _ 22 rfl w8.heap.size 5 i0 (.int .u8 0) 1 1 underlying22 hi hz0 hz1 hz2 rfl (by decide) _ _ _ rfl (HOj.o.alloc _) ⟨wr.heap.size,0,none⟩ 4 4 [.int .u8 (x/16777216%256),.int .u8 (x/65536%256),.int .u8 (x/256%256),.int .u8 (x%256)] rfl rfl (four_new wr _ _ _ _ _) (four_cell _ _ _ _) (by unfold maxLen;omega) (by omega) (by simp;omega) ?_;intro v6 w6 hO6 hg6 _;have HB6:=hideA (Nu.app_below HBj.o nl HOj.o hg6);have HO6:=hideA hO6;clear hO6 hg6)
         go_roundw
         case rel =>
          refine⟨j+1,by go_num,by omega,?_,HB6.o⟩;have e:=HO6.o;rw[out_four (shaS t k) j _ _ _ _ (by rw[HX.o]) (by rw[HX.o]) (by rw[HX.o]) (by rw[HX.o])]at e;rw[show 4*(j+1)=4*j+4 by omega]at e ⊢;exact e
         case measure=>simp[intOf];omega
        ·have hown8:wr.ownsRow w8.heap.size 5 1 u8 32 (rowF .u8 32 (fun q=>(outF (shaS t k) q:Nat))).toList:=by
          have e:j=8:=by omega
          rw[e]at hown;exact hown
         have hcv9:=own_str (P:=prog) (src:=22) (dst:=9) hown8 (outF_lt _) underlying22 underlying5 underlying9;have HFB:=hideA (HB8.o.trans (hbel.mono HB8.o.size));clear hown hown8 hbel;(go_wp2_with fail);go_ret;refine⟨Nu.ret_strJ ?_,HFB.o⟩;rw[HSK.o];rfl
  ·have em:((n:Int)%64==56)=false:=by simp;omega
   have HZ:Hid (0=pad t n):=by
    unfold Hid;rw[pad_zero t n (by omega) (by rw[<-HCH.o];omega)]
   go_wp2_with (at_builtin;refine wpList_append_b rfl _ _ 22 rfl w.heap.size 5 i0 underlying22 hi hz0 hz1 hz2 (.slice (some ⟨g,0,none⟩) n cap) n (pad t) rfl (HO3.o.alloc _) ⟨wr.heap.size,0,none⟩ 1 0 rfl (cell_one wr _ _) (by omega) (by have:=HB3.o.size;simp;omega) ?_;intro v4 w4 hO4 hg4;have HO4:=hideA (hO4.congr (fun j _=>pad_app t n 0 HZ.o j));have HB4:=hideA (app_own HB3.o HB3.o.size HO3.o hg4);clear hO4 hg4)
   obtain⟨g',cap',hv4,hcap4⟩:=HO4.o.slice;subst hv4
   go_roundw
   case rel=>exact⟨n+1,HO4.o,by omega,by omega,HB4.o⟩
   case measure=>simp;omega
end Sh
namespace Kp
open Ls (cells3 lowL blkL lm_alloc lm_drew)
open St (OwnS Strs one_newS one_cellS app_one)
open Nu (putS putT)
open Pk (cat join_any)
def partsR (x:Rec) (j:Nat):List ByteArray:=[putS x.1,putT x.2.1,putS (x.2.2.length:Nat)]++(x.2.2.take j).map putT
def innerT (x:Rec):ByteArray:=⟨(cat (partsR x x.2.2.length)).toArray⟩
def recT (x:Rec):ByteArray:=putT (Se.sealV (innerT x))
theorem putT_size (t:ByteArray):(putT t).size<=8010:=by
 unfold putT
 split
 ·rw[ByteArray.size_append]
  have:=Nu.putS_size (t.size:Int)
  omega
 ·exact Nat.zero_le _
theorem cat_le:∀ l:List ByteArray,(∀ q∈l,q.size<=8010)->(cat l).length<=8010*l.length
 |[],_=>nl
 |a :: l,h=>by
  have h1:=cat_le l (fun q hq=>h q (List.mem_cons_of_mem _ hq));have h2:=h a List.mem_cons_self;unfold cat at h1 ⊢;rw[List.flatMap_cons,List.length_append,List.length_cons];have h3:a.data.toList.length=a.size:=rfl;omega
theorem partsR_len (x:Rec) (j:Nat) (h:j<=x.2.2.length):(partsR x j).length=3+j:=by
 unfold partsR;rw[List.length_append,List.length_map,List.length_take]
 show 3+_=_
 omega
theorem partsR_cat (x:Rec) (j:Nat) (h:j<=x.2.2.length):(cat (partsR x j)).length<=8010*(3+j):=by
 rw[<-partsR_len x j h];refine cat_le _ (fun q hq=>?_);unfold partsR at hq
 rcases List.mem_append.1 hq with hq|hq
 ·simp only[List.mem_cons,List.not_mem_nil,or_false]at hq
  rcases hq with rfl|rfl|rfl
  ·have:=Nu.putS_size x.1;omega
  ·exact putT_size _
  ·have:=Nu.putS_size ((x.2.2.length:Nat):Int);omega
 ·obtain⟨t,_,rfl⟩:=List.mem_map.1 hq
  exact putT_size t
theorem partsR_next (x:Rec) (j:Nat) (h:j<x.2.2.length):partsR x (j+1)=partsR x j++[putT x.2.2[j]]:=by
 unfold partsR;rw[List.append_assoc,List.take_add_one,List.getElem?_eq_getElem h,List.map_append];rfl
theorem innerT_size (x:Rec) (h:x.2.2.length<=20):(innerT x).size<=1048576:=by
 have:=partsR_cat x _ nl
 show (cat _).toArray.size<=_
 rw[List.size_toArray];omega
theorem sealV_size (t:ByteArray):(Se.sealV t).size<=8000:=by
 unfold Se.sealV
 split
 ·rw[ByteArray.size_append,Se.fourS_size];omega
 ·exact Nat.zero_le _
theorem recT_size (x:Rec):(recT x).size<=8010:=putT_size _
theorem own_oneK {W:World} {base size n:Nat} {e:TypeId} {v:Value} {xs:List Value} (h:W.ownsRow base e size v n xs):∃ a cap,v=.slice a n cap:=by
 obtain⟨_,h⟩:=h
 rcases h with⟨h,h0⟩|⟨g,cap,cur,hv,_⟩
 ·exact⟨none,0,by rw[h,h0]⟩
 ·exact⟨_,cap,hv⟩
theorem own_three (W:World) (base:Nat) (a b c:ByteArray) (g:Nat) (hg:W.heap[g]? = some (.cells #[.string a,.string b,.string c] 9 (0,0))) (hb:base<=g):OwnS W base (.slice (some ⟨g,0,none⟩) 3 3) [a,b,c] :=
 ⟨rfl,.inr ⟨g,3,_,rfl,hb,hg,nl,by unfold maxLen;omega,rfl,rfl⟩⟩
theorem text_impl (x:MR) (w:World) (hi1:-9223372036854775808<=x.1.1) (hi2:x.1.1<=9223372036854775807) (ht:x.1.2.1.size<=8000) (hp20:x.1.2.2.length<=20) (hq:∀ q∈x.1.2.2,q.size<=8000) (hs:∃ a cap,x.2=.slice a x.1.2.2.length cap/\x.1.2.2.length<=cap/\Strs w w.heap.size a x.1.2.2) :
  Calls prog 29 #[.agg #[.int .i64 x.1.1,.string x.1.2.1,x.2]] w fun e w'=>e=.returned (.string (recT x.1))/\Below w.heap.size w w':=by
 obtain⟨i0,hif,hz0',hz1,hz2⟩:=info_parts St.Tryz.infoS9;obtain⟨⟨i,t,p⟩,v⟩:=x;obtain⟨a,cap,hv,hc,hst⟩:=hs;dsimp only at hi1 hi2 ht hp20 hq hv hc hst ⊢;subst hv;obtain⟨n,hn⟩:∃ n,n=p.length:=⟨_,rfl⟩;have H1:=hideK (fun W=>Nu.put_impl i W hi1 hi2);have H2:=hideK (fun W=>Nu.text_impl t W (by unfold maxLen;omega));have H3:=hideK (fun W=>Nu.put_impl (n:Int) W (by omega) (by omega));have HQ:=hideK (fun j (h:j<p.length) W=>Nu.text_impl p[j] W (by have:=hq p[j] (List.getElem_mem h);unfold maxLen;omega));have HJ:=hideK (fun aa cp W hW=>join_any (partsR (i,t,p) n) aa cp (3+n) W hW (by rw[partsR_len _ _ (by rw[hn];exact nl)]) (by omega) (by have:=partsR_cat (i,t,p) n (by rw[hn];exact nl);omega));have HSE:=hideK (fun W=>Se.seal_impl (innerT (i,t,p)) W (by have:=innerT_size (i,t,p) hp20;unfold maxLen;omega));have HTX:=hideK (fun W=>Nu.text_impl (Se.sealV (innerT (i,t,p))) W (by have:=sealV_size (innerT (i,t,p));unfold maxLen;omega));have HRT:Hid (recT (i,t,p)=putT (Se.sealV (innerT (i,t,p)))):=rfl
 have HIN:Hid (innerT (i,t,p)=⟨(cat (partsR (i,t,p) n)).toArray⟩):=by unfold Hid innerT;rw[hn]
 rw[<-HIN.o]at HJ;rw[HRT.o]
 have HP0:Hid (partsR (i,t,p) 0=[putS i,putT t,putS (n:Int)]):=by unfold Hid partsR;rw[hn];simp
 have HPN:=hideK (fun j (h:j<p.length)=>partsR_next (i,t,p) j h);have HPL:=hideK (fun j (h:j<=p.length)=>partsR_len (i,t,p) j h);have HST:=hideK hst;have HN:=hideK hn;rw[<-hn]at hp20 hc ⊢;generalize innerT (i,t,p)=I at HJ HSE HTX ⊢;generalize Se.sealV I=J at HSE HTX ⊢;generalize putT J=R at HTX ⊢;generalize putS i=A at H1 HP0;generalize putT t=B at H2 HP0;generalize putS (n:Int)=C at H3 HP0;clear hst hq hn HRT HIN ht hi1 hi2;have C0:=hideK ((Cx.nil w).new (.cells #[.int .i64 i,.string t,.slice a n cap] 58));go_enter func29,ntmps29
 go_upto_region 1 with fail
 have W0B:Hid (Below w.heap.size w (w.alloc (.cells #[.int .i64 i,.string t,.slice a n cap] 58))):=(Below.refl _ _).alloc nl _;have W0C:Hid (∀ pp:Addr,pp.block<w.heap.size->(w.alloc (.cells #[.int .i64 i,.string t,.slice a n cap] 58)).cell? pp=w.cell? pp):=fun pp h=>W0B.o.cell h;have W0L:Hid (w.heap.size<=(w.alloc (.cells #[.int .i64 i,.string t,.slice a n cap] 58)).heap.size):=W0B.o.size;generalize w.alloc _=w0 at C0 W0B W0C W0L ⊢;generalize hgx:w.heap.size=gx at C0 ⊢;have HGX:=hideK hgx;clear hgx;have CX:Hid (∀ W,Below w0.heap.size w0 W->W.cell? ⟨gx,0,none⟩=some (.int .i64 i)/\W.cell? ⟨gx,1,none⟩=some (.string t)/\W.cell? ⟨gx,2,none⟩=some (.slice a n cap)):=fun W h=>cells3 (blkL (C0.o.get 0 rfl) h)
 go_cut [3] from 6 to 16 (fun s3 wx=>∃ g:Nat,s3=.slice (some ⟨g,0,none⟩) 3 3/\wx.heap[g]? = some (.cells #[.string A,.string B,.string C] 9 (0,0))/\w0.heap.size<=g/\Below w0.heap.size w0 wx)
 case first =>
  have hS0:=CX.o _ (lm_drew (Below.refl w0.heap.size w0))
  go_region_held3 (fun W=>W.cell? ⟨gx,0,none⟩=some (.int .i64 i)/\W.cell? ⟨gx,1,none⟩=some (.string t)/\W.cell? ⟨gx,2,none⟩=some (.slice a n cap))
   (first|assumption|exact CX.o _ (by repeat (first|exact L1.o|exact L2.o|exact L3.o|exact Below.refl _ _|refine lm_alloc ?_ _|refine lm_drew ?_)))
   (first
    |(go_at_call 53;(with_reducible refine(H1.o _).mono ?_);rintro e w1 ⟨rfl,hb⟩;have L1:=hideK (lowL (w0:=w0) (by repeat (first|exact L2.o|exact L3.o|exact Below.refl _ _|refine lm_alloc ?_ _|refine lm_drew ?_)) hb);clear hb)
    |(go_at_call 54;(with_reducible refine(H2.o _).mono ?_);rintro e w2 ⟨rfl,hb⟩;have L2:=hideK (lowL (w0:=w0) (by repeat (first|exact L1.o|exact L3.o|exact Below.refl _ _|refine lm_alloc ?_ _|refine lm_drew ?_)) hb);clear hb)
    |(go_at_call 53;(with_reducible refine(H3.o _).mono ?_);rintro e w3 ⟨rfl,hb⟩;have L3:=hideK (lowL (w0:=w0) (by repeat (first|exact L1.o|exact L2.o|exact Below.refl _ _|refine lm_alloc ?_ _|refine lm_drew ?_)) hb);clear hb))
  all_goals (try go_wp2_with fail)
  all_goals (go_meet;first|exact⟨_,rfl,heap_alloc_new _ _,L3.o.size,lm_alloc L3.o _⟩|exact⟨_,rfl,heap_alloc_new _ _,L2.o.size,lm_alloc L2.o _⟩|exact⟨_,rfl,heap_alloc_new _ _,L1.o.size,lm_alloc L1.o _⟩)
 case rest =>
  obtain⟨g,rfl,hgb,hgl,hbx⟩:=hcut;have O1:=hideK (own_three wc w0.heap.size A B C g hgb hgl);rw[<-HP0.o]at O1;have LC:=hideK hbx;have C1:=hideK (C0.o.call hbx);clear hgb hbx H1 H2 H3 C0 CX;obtain⟨x0,x1,x2⟩:=cells3 (C1.o.get 0 rfl);have hz:=C1.o.low.size;have hz0:=LC.o.size
  go_wp2_with fail
  go_loopw [20,3,5] (fun jv tv _ wr=>∃ (j:Nat) (aa:Option Addr) (cc:Nat),jv=.int .i64 j/\tv=.slice aa (3+j:Nat) cc/\j<=n/\OwnS wr w0.heap.size (.slice aa (3+j) cc) (partsR (i,t,p) j)/\Below w0.heap.size w0 wr) (fun jv _ _ _=>n-(intOf jv).toNat)
  case atStart=>exact⟨0,_,_,rfl,rfl,Nat.zero_le _,O1.o,LC.o⟩
  case round =>
   obtain⟨j,aa,cc,rfl,rfl,hj,ho,hbw⟩:=hrel;have O:=hideK ho;have BW:=hideK hbw;have hzr:=hbw.size;clear ho hbw O1 LC;by_cases hlt:j<n
   ·have hlt':(j:Int)<(n:Int):=by omega
    have hjl:j<p.length:=by rw[<-HN.o];exact hlt
    have HTJ:=hideK (fun W=>HQ.o j hjl W);have HNX:=hideK (HPN.o j hjl);have HLJ:=hideK (HPL.o j (by omega));have hbx:=C1.o.low;have hcx:=C1.o.get 0 rfl;obtain⟨bb,off,hab,hbl,hcl⟩:=HST.o.some (by omega);subst hab
    have cj:wr.cell? ⟨bb,off+j,none⟩=some (.string p[j]):=by
     have h1:=(BW.o.cell (p:=⟨bb,off+j,none⟩) (show bb<w0.heap.size by have:=HGX.o;have:=W0L.o;omega));rw[h1];have h2:=hcl j hjl;rw[<-h2];exact W0C.o ⟨bb,off+j,none⟩ hbl
    generalize p[j]=q at HTJ HNX cj;generalize putT q=Q at HTJ HNX;clear hcl hbx hcx hjl;(go_wp2_with fail);refine(HTJ.o _).mono ?_;rintro e w3 ⟨rfl,hb⟩;have O3:=hideK (O.o.below hb);have B3:=hideK (BW.o.trans (hb.mono hzr));have hz3:=B3.o.size;clear hb O cj
    have OW3:Hid (w3.ownsRow w0.heap.size 9 1 (.slice aa (3+j) cc) (3+j) ((partsR (i,t,p) j).map Value.string)):=by
     have:=O3.o
     unfold OwnS at this;rw[HLJ.o]at this;exact this
    go_wp2_with (at_builtin;refine wpList_append_own _ rfl (.tmp 24) (.tmp 27) 31 rfl w0.heap.size 9 i0 (.string ⟨#[]⟩) 1 16 underlying31 hif hz0' hz1 hz2 rfl (by decide) _ _ _ rfl (World.ownsRow.alloc OW3.o _) ⟨w3.heap.size,0,none⟩ 1 1 [.string Q] rfl rfl (one_newS w3 _ _) (one_cellS _) (by unfold maxLen;omega) (by omega) (by simp;omega) ?_)
    intro v' w4 hown hgrow _;obtain⟨aa',cc',hv'⟩:=own_oneK hown;subst hv'
    have O4:Hid (OwnS w4 w0.heap.size (.slice aa' (3+(j+1)) cc') (partsR (i,t,p) (j+1))):=by
     rw[HNX.o];exact OwnS.snoc (by rw[HLJ.o];exact hown)
    have B4:=hideK (app_one B3.o hz3 nl OW3.o hgrow);clear hown hgrow;(go_wp2_with fail)
    go_roundw
    case rel=>exact⟨j+1,aa',cc',by go_num,by rw[Nat.add_assoc],by omega,O4.o,B4.o⟩
    case measure=>simp[intOf];omega
   ·obtain rfl:j=n:=by omega
    have hltD:decide ((j:Int)<(j:Int))=false:=by simp
    obtain⟨a1,c1,hv1,_,hst1⟩:=O.o.strs
    have hv2:aa=a1/\cc=c1:=by
     simp at hv1;exact⟨hv1.1,hv1.2.2⟩
    obtain⟨rfl,rfl⟩:=hv2;have HJ1:=hideK (HJ.o aa cc wr hst1);clear hst1 hv1;(go_wp2_with fail);refine HJ1.o.mono ?_;rintro e w3 ⟨rfl,hb⟩;have B3:=hideK (BW.o.trans (hb.mono hzr));clear hb HJ1 O;(go_wp2_with fail);refine(HSE.o _).mono ?_;rintro e w4 ⟨rfl,hb⟩;have B4:=hideK (lowL B3.o hb);clear hb;(go_wp2_with fail);refine(HTX.o _).mono ?_;rintro e w5 ⟨rfl,hb⟩;have B5:=hideK (lowL B4.o hb);clear hb;(go_wp2_with fail);go_ret;exact⟨rfl,lowL W0B.o B5.o⟩
end Kp
namespace Kp
open Ls (cells3 set3_all blk_alloc)
open Sh (step_append_own)
theorem Tryz.infoRecord:(prog.info? 58).map (fun i=>(i.zero,i.size,i.bytes))=some (some (.agg #[.int .i64 0,.string ⟨#[]⟩,.slice none 0 0]),3,48):=by kernel_rfl
def wkB (v:Value) (e:Int) (z b:Int) (r s:ByteArray) (y:Int):Obj:=.cells #[v,.int .i64 e,.int .i64 z,.int .i64 b,.string r,.string s,.int .i64 y] 54
theorem wk_set0 {W:World} {g:Nat} {v:Value} {e z b:Int} {r s:ByteArray} {y:Int} (h:W.heap[g]? = some (wkB v e z b r s y)) (u:Value):(W.setCell ⟨g,0,none⟩ u).heap[g]? = some (wkB u e z b r s y):=by
 unfold wkB at h ⊢;rw[heap_setCell_same W g 0 _ _ u h];rfl
theorem wk_set1 {W:World} {g:Nat} {v:Value} {e z b:Int} {r s:ByteArray} {y:Int} (h:W.heap[g]? = some (wkB v e z b r s y)) (f:Int):(W.setCell ⟨g,1,none⟩ (.int .i64 f)).heap[g]? = some (wkB v f z b r s y):=by
 unfold wkB at h ⊢;rw[heap_setCell_same W g 1 _ _ _ h];rfl
theorem wk_cells {W:World} {g:Nat} {v:Value} {e z b:Int} {r s:ByteArray} {y:Int} (h:W.heap[g]? = some (wkB v e z b r s y)):W.cell? ⟨g,0,none⟩=some v/\W.cell? ⟨g,1,none⟩=some (.int .i64 e)/\W.cell? ⟨g,2,none⟩=some (.int .i64 z)/\W.cell? ⟨g,3,none⟩=some (.int .i64 b)/\W.cell? ⟨g,4,none⟩=some (.string r)/\W.cell? ⟨g,5,none⟩=some (.string s)/\W.cell? ⟨g,6,none⟩=some (.int .i64 y) :=
 ⟨cell_of_row W g 0 _ _ _ h,cell_of_row W g 1 _ _ _ h,cell_of_row W g 2 _ _ _ h,cell_of_row W g 3 _ _ _ h,cell_of_row W g 4 _ _ _ h,cell_of_row W g 5 _ _ _ h,cell_of_row W g 6 _ _ _ h⟩
theorem OwnR.set {W:World} {base g:Nat} {v:Value} {m:List MR} {cs:Array Value} {T:TypeId} (h:OwnR W base v m) (hg:W.heap[g]? = some (.cells cs T (0,0))) (hT:T≠58) (i:Nat) (u:Value):OwnR (W.setCell ⟨g,i,none⟩ u) base v m:=by
 obtain⟨hl,h⟩:=h;refine⟨hl,?_⟩
 rcases h with h|⟨k,cap,cur,hv,hk,hb,rest⟩
 ·exact .inl h
 ·refine .inr ⟨k,cap,cur,hv,hk,?_,rest⟩
  rw[heap_setCell_other W _ k u (by
   rintro rfl;rw[hg]at hb;simp at hb
   exact hT hb.2)]
  exact hb
theorem own_one {W:World} {base size n:Nat} {e:TypeId} {v:Value} {xs:List Value} (h:W.ownsRow base e size v n xs):∃ a cap,v=.slice a n cap:=by
 obtain⟨_,h⟩:=h
 rcases h with⟨h,h0⟩|⟨g,cap,cur,hv,_⟩
 ·exact⟨none,0,by rw[h,h0]⟩
 ·exact⟨_,cap,hv⟩
theorem own_drewA {W:World} {base:Nat} {v:Value} {m:List MR} (h:OwnR W base v m) (o:Obj):OwnR (W.drew.alloc o) base v m:=(h.below (show Below W.heap.size W W.drew from (Below.refl _ _).drew)).alloc o
theorem grown_blk {W W':World} {row:Option Nat} {g:Nat} {o:Obj} (h:W.grownBy W' row) (hg:W.heap[g]? = some o) (hr:row≠some g):W'.heap[g]? = some o:=(h.block g (lt_rowK hg) (fun e=>hr e.symm)).trans hg
theorem own_not {W:World} {base g:Nat} {v:Value} {m:List MR} {cs:Array Value} {T:TypeId} (h:OwnR W base v m) (hg:W.heap[g]? = some (.cells cs T (0,0))) (hT:T≠58):v.ownBlock≠some g:=fun e=>by
 obtain⟨cs',hk⟩:=h.rowT g e;rw[hg]at hk;simp at hk;exact hT hk.2
theorem put_end {w w1 w8:World} {o:Obj} {g base:Nat} {x:MR} {e e0 z b:Int} {r s:ByteArray} {y:Int} {v v8:Value} {m:List MR} (hg:w.heap[g]? = some (wkB v e0 z b r s y)) (ho:OwnR w base v m) (hw1:∃ q,w1=w.alloc q) (hbase:base<=w.heap.size)
  (hg8:(w1.drew.alloc o).grownBy w8 v.ownBlock) (ho8:w8.ownsRow base 58 3 v8 (m.length+1) (cellsR m++[.int .i64 x.1.1,.string x.1.2.1,x.2])) :
  w8.heap[g]? = some (wkB v e0 z b r s y)/\∃ v',((w8.setCell ⟨g,0,none⟩ v8).setCell ⟨g,1,none⟩ (.int .i64 e)).heap[g]? = some (wkB v' e z b r s y)/\OwnR ((w8.setCell ⟨g,0,none⟩ v8).setCell ⟨g,1,none⟩ (.int .i64 e)) base v' (m++[x])/\KeepsS w ((w8.setCell ⟨g,0,none⟩ v8).setCell ⟨g,1,none⟩ (.int .i64 e)) /\
    (∀ k o,w.heap[k]? = some o->k≠g->v.ownBlock≠some k->((w8.setCell ⟨g,0,none⟩ v8).setCell ⟨g,1,none⟩ (.int .i64 e)).heap[k]? = some o)/\(∀ B,B<=base->B<=g->Below B w ((w8.setCell ⟨g,0,none⟩ v8).setCell ⟨g,1,none⟩ (.int .i64 e))):=by
 obtain⟨q,rfl⟩:=hw1
 have hT1:(54:Nat)≠58:=by decide
 have hT2:(54:Nat)≠9:=by decide
 have hT3:(58:Nat)≠9:=by decide
 have hne:v.ownBlock≠some g:=own_not ho hg hT1;have up:∀ k u,w.heap[k]? = some u->((w.alloc q).drew.alloc o).heap[k]? = some u:=fun k u h=>blk_alloc (W:=(w.alloc q).drew) (blk_alloc h q) o;have h8:w8.heap[g]? = some (wkB v e0 z b r s y):=grown_blk hg8 (up g _ hg) hne;have o8:OwnR w8 base v8 (m++[x]):=OwnR.snoc ho8;have h80:=wk_set0 h8 v8;have hbl:Below w.heap.size w ((w.alloc q).drew.alloc o):=(((Below.refl _ w).alloc nl q).drew).alloc (by simp) o;refine⟨h8,v8,wk_set1 h80 e,(o8.set h8 hT1 0 v8).set h80 hT1 1 _,?_,?_,?_⟩
 ·refine((KeepsS.below hbl).trans (KeepsS.grown hg8 ?_)).trans ((KeepsS.set h8 hT2 0 v8).trans (KeepsS.set h80 hT2 1 _))
  intro k hk;obtain⟨cs,hc⟩:=ho.rowT k hk;exact⟨cs,_,up k _ hc,hT3⟩
 ·intro k u hk hkg hkv
  rw[heap_setCell_other _ _ k _ (by exact hkg),heap_setCell_other _ _ k _ (by exact hkg)];exact grown_blk hg8 (up k _ hk) hkv
 ·intro B hB hBg
  have hBs:B<=w.heap.size:=by have:=lt_rowK hg;omega
  refine((((((Below.refl B w).alloc hBs q).drew).alloc (by simp;omega) o).grown hg8 (by simp;omega) ?_).setCell (p:=⟨g,0,none⟩) hBg v8).setCell (p:=⟨g,1,none⟩) hBg _;intro k hk;exact Nat.le_trans hB (World.ownsRow.lt ho k hk).1
theorem put_any (g base n:Nat) (x:MR) (e e0 z b:Int) (r s:ByteArray) (y:Int) (v:Value) (m:List MR) (w:World) (hg:w.heap[g]? = some (wkB v e0 z b r s y)) (ho:OwnR w base v m) (hbase:base<=w.heap.size) (hn:m.length=n) (hm:n<=1048576) (hx:∃ a n cap,x.2=.slice a n cap) :
  Calls prog 46 #[.pointer (some ⟨g,0,none⟩),.agg #[.int .i64 x.1.1,.string x.1.2.1,x.2],.int .i64 e] w fun q w' =>
   q=.returned (.tuple #[])/\∃ v',w'.heap[g]? = some (wkB v' e z b r s y)/\OwnR w' base v' (m++[x])/\KeepsS w w' /\
    (∀ k o,w.heap[k]? = some o->k≠g->v.ownBlock≠some k->w'.heap[k]? = some o)/\(∀ B,B<=base->B<=g->Below B w w'):=by
 obtain⟨i0,hi,hz0,hz1,hz2⟩:=info_parts Tryz.infoRecord;have HEND:=hideK (fun w1 w8 o v8=>put_end (w:=w) (w1:=w1) (w8:=w8) (o:=o) (x:=x) (e:=e) (v8:=v8) hg ho);obtain⟨⟨xi,xt,xp⟩,xv⟩:=x;obtain⟨ap,np,cp,hxv⟩:=hx;dsimp only at hxv HEND ⊢;subst hxv;subst hn;obtain⟨w1,hw1⟩:∃ w1,w1=w.alloc (.cells #[.int .i64 xi,.string xt,.slice ap np cp] 58):=⟨_,rfl⟩
 have HX1:Hid (w1.heap[w.heap.size]? = some (.cells #[.int .i64 xi,.string xt,.slice ap np cp] 58 (0,0))):=by rw[hw1];exact heap_alloc_new w _
 have B1:Hid (Below w.heap.size w w1):=by rw[hw1];exact(Below.refl _ _).alloc nl _
 have G1:Hid (w1.heap[g]? = some (wkB v e0 z b r s y)):=by rw[hw1];exact blk_alloc hg _
 have O1:Hid (OwnR w1 base v m):=by rw[hw1];exact ho.alloc _
 have HW1:Hid (∃ q,w1=w.alloc q):=⟨_,hw1⟩;have OD:=hideK (own_drewA O1.o (.cells #[.int .i64 xi,.string xt,.slice ap np cp] 58));have hz1':base<=w1.heap.size:=Nat.le_trans hbase B1.o.size;clear hg ho;obtain⟨a,cap,hv⟩:=O1.o.one;obtain⟨x0,x1,x2⟩:=cells3 HX1.o;obtain⟨k0,k1,_⟩:=wk_cells G1.o;have hfz:=fun o=>frozen_of_row w1 g o _ _ G1.o;go_enter func46,ntmps46
 go_upto_region 1 with fail
 rw[<-hw1];clear hw1;generalize hml:m.length=n at hv OD HEND hm ⊢;subst hv
 have ODD:Hid (((w1.alloc (.cells #[.int .i64 xi,.string xt,.slice ap np cp] 58)).drew).ownsRow base 58 3 (.slice a n cap) n (cellsR m)):=by
  have:=OD.o
  unfold OwnR at this;rw[hml]at this;exact this
 have cA:(w1.alloc (.cells #[.int .i64 xi,.string xt,.slice ap np cp] 58)).cell? ⟨g,0,none⟩=some (.slice a n cap):=(wk_cells (blk_alloc G1.o _)).1
 go_region_law (refine step_append_own rfl (.tmp 10) (.tmp 12) 50 rfl base 58 i0 _ 3 48 underlying50 hi hz0 hz1 hz2 rfl (by decide) (.slice a n cap) n _ rfl ODD.o ⟨w1.heap.size,0,none⟩ 1 1 [.int .i64 xi,.string xt,.slice ap np cp] rfl rfl (three_new w1.drew _ _ _ _) (three_one rfl rfl rfl) (by unfold maxLen;omega) (by omega) (by simp;omega) ?_;intro v8 w8 ho8 hg8;obtain⟨a8,c8,hv8⟩:=own_one ho8;subst hv8;obtain⟨G8,HE8⟩:=HEND.o w1 w8 _ _ HW1.o hbase hg8 ho8;have E8:=hideK HE8;clear ho8 hg8 HE8;obtain⟨d0,d1,_⟩:=wk_cells G8;have hf8:=fun o=>frozen_of_row w8 g o _ _ G8)
 all_goals (try go_wp2_with fail)
 all_goals (
  refine bodyPost_end (v:=.tuple #[]) (by simp[results,results46,go_sem]) rfl ⟨rfl,?_⟩
  exact E8.o)
end Kp
namespace Kp
open Ls (cells3 lowL blkL)
open St (Strs)
open Nu (putS putT)
open Pk (cat)
def accT (x:Rec) (j:Nat):ByteArray:=⟨(cat (partsR x j)).toArray⟩
theorem ba_ext {a b:ByteArray} (h:a.data.toList=b.data.toList):a=b:=by
 cases a
 cases b
 congr
 exact Array.toList_inj.1 h
theorem ba_data (a b:ByteArray):(a++b).data.toList=a.data.toList++b.data.toList:=Joins.data_append a b
end Kp
namespace Se
end Se
namespace fnExactUnseal
end fnExactUnseal
end Go.Proofs.YtbdcffjcogglbaaGreatDoor
