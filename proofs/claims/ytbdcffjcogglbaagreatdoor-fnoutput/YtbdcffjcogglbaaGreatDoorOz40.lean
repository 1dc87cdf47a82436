import Derived.Test.YtbdcffjcogglbaaGreatDoorOz27
import Derived.Test.YtbdcffjcogglbaaGreatDoorOz32
set_option maxRecDepth 100000
set_option maxHeartbeats 8000000
namespace Go.Proofs.YtbdcffjcogglbaaGreatDoor
open Go.RowKit
open Go.Proofs.Tryz
namespace Sh
open Nu (bv hideJ run_copy_string)
theorem fill_any (t:ByteArray) (w:World) (ht:t.size<=1048576) :
  Calls prog 120 #[.string t] w fun e w'=>e=.returned (.slice (some ⟨w.heap.size,0,none⟩) (chunks t.size*64) (chunks t.size*64)) /\
   IsB w' w.heap.size 5 .u8 (chunks t.size*64) (fun j=>(pad t j:Nat))/\Below w.heap.size w w':=by
 obtain⟨i0,hi,hz0,hz1,hz2⟩:=info_parts Nu.Tryz.infoJ5;obtain⟨ch,hch⟩:∃ c,c=chunks t.size:=⟨_,rfl⟩;have hr:=chunks_room t.size;have hti:=chunks_tight t.size
 have hc:((t.size:Int)+1+8+64-1)/64=(ch:Int):=by rw[hch];unfold chunks;omega
 have hcw:((ch:Int)*64).toNat=ch*64:=by omega
 rw[<-hch]at hr hti ⊢;have HCH:=hideJ hch;clear hch;go_enter func120,ntmps120
 go_wp2_with (at_make;refine wpList_make_full _ rfl (.tmp 15) (.tmp 15) 22 rfl w.heap.size 5 i0 (.int .u8 0) 1 underlying22 hi hz0 hz1 .i64 .i64 _ _ (ch*64) rfl rfl (by simp) (by simp) (by rw[hz2];omega) (by unfold maxLen;omega) nl ?_;intro w1 hown1 hgrow1;have hrow:=made_row hown1;have hbel1:=(Below.refl w.heap.size w).grown hgrow1 nl (by simp);obtain⟨w2,c1,hrow2,k1,k2,k3,k4,k5⟩:=run_copy_string (P:=prog) w1 22 9 3 5 (some ⟨w.heap.size,0,none⟩) w.heap.size 0 (ch*64) (ch*64) t (rowF .u8 (ch*64) (fun _=>0)).toList 5 underlying22 Nu.Tryz.sizeJ5 (by unfold IsB at hrow;simpa using hrow) (fun _=>rfl) (by omega) (by simp[rowF_size];omega);rw[splice_row _ _ _ (by omega)]at hrow2;have hrow3:IsB w2 w.heap.size 5 .u8 (ch*64) (fun j=>if j<t.size then (bt t j:Nat) else 0):=hrow2;have HB:=hideJ hrow3;have HL:=hideJ (Nu.copy_below hbel1 k1 k2 k3 k4 k5);have hce:=hrow3.cell (j:=t.size) (by omega);have hfz:=hrow3.frozen t.size;clear hown1 hgrow1 hrow hbel1 k1 k2 k3 k4 k5 hrow2 hrow3)
 go_loopw [28] (fun i wr=>∃ k:Nat,i=.int .i64 k/\k<=8/\IsB wr w.heap.size 5 .u8 (ch*64) (fun j=>(padK t k j:Nat))/\Below w.heap.size w wr) (fun i _=>8-(intOf i).toNat)
 case atStart =>
  refine⟨0,rfl,by omega,IsB.congr (HB.o.set t.size 128) (fun j hj=>pad_start t j (by rw[<-HCH.o];exact hj)),HL.o.setCell nl _⟩
 case round =>
  obtain⟨k,rfl,hk,h1,hbel⟩:=hrel;have G1:=hideJ h1;by_cases hlt:k<8
  ·have e1:((ch:Int)*64-1-(k:Int)).toNat=ch*64-1-k:=by omega
   have ce:=h1.cell (j:=ch*64-1-k) (by omega);have cf:=h1.frozen (ch*64-1-k)
   have HV:Hid (((t.size:Int)*8/2 ^ (8*k))%256=((t.size*8/2 ^ (8*k)%256:Nat):Int)):=by
    unfold Hid;simp
   clear h1
   go_wp2_with fail
   go_roundw
   case rel =>
    refine⟨k+1,by go_num,by omega,IsB.congr (G1.o.set (ch*64-1-k) _) (fun j hj=>?_),hbel.setCell nl _⟩;rw[HCH.o]at hj ⊢;exact pad_next t k hlt _ HV.o j hj
   case measure=>simp[intOf];omega
  ·obtain rfl:k=8:=by omega
   clear h1
   go_wp2_with fail
   go_ret;exact⟨rfl,G1.o,hbel⟩
theorem wpStill_load_row {P:Program} {w:World} {ops:Array Oper} {rest:List Oper} {a:Act} {Q:Act->Prop} {d:Tmp} {p:Operand} {ty tt:TypeId} {pos:String} {af:Array Edge}
  {g:Nat} {t:TypeId} {k:IntKind} {n:Nat} {f:Nat->Int} {e:TypeId} (hb:IsB w g t k n f) (hu:P.underlying ty=some (.array n e)) (hi:(P.info? ty).map (·.size)=some n)
  (hp:a.eval p=.pointer (some ⟨g,0,none⟩)) (h:wpStill P ops w Q rest (a.put (some d) (.agg (rowF k n f)))) :
  wpStill P ops w Q (⟨some d,.load ty p,tt,pos,af,none⟩ :: rest) a:=by
 refine wpStill_step fun K hK=>?_;have hl:=hb.loadAt (P:=P) ty e hu hi;simp[Region.wanted,Oper.still,Oper.stillUpon,execOp,hp,hl,Result.andThen];exact hK _ h
end Sh
namespace Gn
end Gn
namespace Ls
open Gn (rd getV getV_rd outN handle rt outT textV numR run run_end handle_below rd_codes)
theorem num_all (s:ByteArray) (a:Int):getV s a=.agg #[.int .i64 (rd s a).1,.int .i64 (rd s a).2.1,.int .i64 (rd s a).2.2]:=by
 rw[getV_rd]
 rcases rd_codes s a with h|⟨h,h1,h2⟩
 ·rw[if_pos h,h]
  rfl
 ·rw[if_neg h,h1,h2]
  rfl
theorem text_all (s:ByteArray) (a:Int):textV s a=.agg #[.string (rt s a).1,.int .i64 (rt s a).2.1,.int .i64 (rt s a).2.2]:=rfl
def zR (s:ByteArray):Int:=(rd s 0).1
def bR (s:ByteArray):Int:=(rd s (rd s 0).2.1).1
def rR (s:ByteArray):ByteArray:=(rt s (rd s (rd s 0).2.1).2.1).1
def okR (s:ByteArray):Prop:=¬s.size=0/\bytesL (zR s) (bR s) (rR s)=s
noncomputable def readV (s:ByteArray):Value:=open Classical in if 8000<s.size then oV 0 0 ⟨#[]⟩ 2 else if okR s then oV (zR s) (bR s) (rR s) 0 else oV 0 0 ⟨#[]⟩ 3
theorem set_j3 {W:World} {g:Nat} {x y z:Value} {T:TypeId} (h:W.heap[g]? = some (.cells #[x,y,z] T (0,0))) (v:Value):(W.setCell ⟨g,0,none⟩ v).heap[g]? = some (.cells #[v,y,z] T (0,0))/\(W.setCell ⟨g,1,none⟩ v).heap[g]? = some (.cells #[x,v,z] T (0,0))/\(W.setCell ⟨g,2,none⟩ v).heap[g]? = some (.cells #[x,y,v] T (0,0)):=by
 refine⟨?_,?_,?_⟩
 ·rw[heap_setCell_same W g 0 _ T v h];rfl
 ·rw[heap_setCell_same W g 1 _ T v h];rfl
 ·rw[heap_setCell_same W g 2 _ T v h];rfl
theorem set3_all {W:World} {g:Nat} {x y z:Value} {T:TypeId} (h:W.heap[g]? = some (.cells #[x,y,z] T (0,0))) (a b c:Value) :
  (((W.setCell ⟨g,0,none⟩ a).setCell ⟨g,1,none⟩ b).setCell ⟨g,2,none⟩ c).cell? ⟨g,0,none⟩=some a/\(((W.setCell ⟨g,0,none⟩ a).setCell ⟨g,1,none⟩ b).setCell ⟨g,2,none⟩ c).cell? ⟨g,1,none⟩=some b/\(((W.setCell ⟨g,0,none⟩ a).setCell ⟨g,1,none⟩ b).setCell ⟨g,2,none⟩ c).cell? ⟨g,2,none⟩=some c:=cells3 (set_j3 (set_j3 (set_j3 h a).1 b).2.1 c).2.2
end Ls
namespace Ls
open Gn (rd getV handle rt textV handle_below handle_alloc)
def HH (w:World):Prop:=w.cell? ⟨3,0,none⟩=some handle
theorem hh_keep {w w':World} (h:HH w) (hb:Below w.heap.size w w'):HH w':=handle_below hb h
end Ls
namespace So
open Go.RowKit Go.Sort Go.Proofs
open Sh (bt bt_get bt_lt strF IsB made_row)
open In (OwnI Ints)
open Nu (bv)
open Ap (Own0 wpList_append_own0)
open Fr (Own0B own0_string one_newB one_cellB own0B_snoc)
def blB (t:ByteArray) (f:Nat->Nat) (k:Nat):List UInt8:=(List.range k).map fun j=>UInt8.ofNat (lastB t (f j))
theorem blB_len (t:ByteArray) (f:Nat->Nat) (k:Nat):(blB t f k).length=k:=by simp[blB]
theorem blB_snoc (t:ByteArray) (f:Nat->Nat) (k:Nat):blB t f (k+1)=blB t f k++[UInt8.ofNat (((lastB t (f k):Nat):Int)).toNat]:=by
 unfold blB;rw[List.range_succ,List.map_append];rfl
theorem l05Bwt_spec (t:ByteArray) (w:World) (ht:t.size<=48) :
  Calls prog 96 #[.string t] w fun e w'=>e=.returned (.tuple #[.string (bwtT t),.int .i64 (bwtA t:Nat)])/\Below w.heap.size w w':=by
 obtain⟨i0,hi0,hz0,hz1,hz2⟩:=info_parts Nu.Tryz.infoJ5;have HOS:=hideO (order_spec t w ht);go_enter func96,ntmps96
 go_wp2_with fail
 refine HOS.o.mono ?_;rintro e w1 ⟨v,l,rfl,ho,hok,_,hb⟩;have HE:=hideO (bwt_yes ht (fun j hj=>rfl) (f:=ordF t))
 have hlen:l.length=t.size:=by have:=hok.1.length_eq;simpa using this
 have HLen:=hideO hlen
 have HOR:Hid (∀ k (h:k<l.length),ordF t k=l[k]/\l[k]<t.size):=fun k h=>⟨ordF_list hok k h,by
  have:=hok.1.mem_iff.1 (List.getElem_mem h)
  simpa using this⟩
 obtain⟨a,cap,rfl,hcap,hI⟩:=ho.ints;have HI:=hideO hI;rw[ints_len,hlen]at hcap ⊢;have HB1:=hideO hb;have z1:=hb.size;clear ho hok hb hI hlen
 go_wp2_with fail
 go_loopw [7,5,6] (fun i u m wr=>∃ k:Nat,i=.int .i64 k/\k<=t.size/\m=.int .i64 (atK (ordF t) k:Nat)/\Own0B wr (w1.heap.size+1) u (blB t (ordF t) k)/\w1.heap.size<wr.heap.size/\Below w1.heap.size w1 wr) (fun i _ _ _=>t.size-(intOf i).toNat)
 case atStart=>exact⟨0,rfl,Nat.zero_le _,rfl,.inl ⟨_,rfl,rfl,rfl⟩,by simp,(Below.refl _ _).alloc nl _⟩
 case round =>
  obtain⟨k,rfl,hk,rfl,hown,hgs,hbel⟩:=hrel;have O1:=hideO hown;have GB:=hideO hbel;clear hbel;by_cases hlt:k<t.size
  ·have hd0:decide ((k:Int)<(t.size:Int))=true:=decide_eq_true (by omega)
   have hkz:(k:Int)<(t.size:Int):=by omega
   have hkl:k<l.length:=by rw[HLen.o];exact hlt
   have hkl':k<(ints l).length:=by rw[ints_len];exact hkl
   obtain⟨b,off,rfl,hb,hc⟩:=(HI.o.below GB.o).some (by omega);have ci:=hc k hkl'
   have HC:Hid (∀ W:World,Below w1.heap.size w1 W->W.cell? ⟨b,off+k,none⟩=some (.int .i64 (ints l)[k])):=fun W hW=>by
    obtain⟨b',off',e1,_,hc'⟩:=((HI.o.below hW).some (by omega:0<(ints l).length))
    cases e1
    exact hc' k hkl'
   have ey:(ints l)[k]=((l[k]:Nat):Int):=by simp[ints]
   rw[ey]at ci HC;obtain⟨ho1,hxt⟩:=HOR.o k hkl;have HN:=hideO (blB_snoc t (ordF t) k);have HA:=hideO (atK_next (ordF t) k);rw[ho1]at HN HA;obtain⟨x,hx⟩:∃ x,x=l[k]:=⟨_,rfl⟩;rw[<-hx]at ci HC hxt HN HA;obtain⟨s,hs⟩:∃ s,s=x+t.size-1:=⟨_,rfl⟩;obtain⟨r,hr⟩:∃ r,r=s%t.size:=⟨_,rfl⟩
   have hrt:r<t.size:=by rw[hr];exact Nat.mod_lt _ (by omega)
   have e1:(x:Int)+(t.size:Int)-1=(s:Int):=by omega
   have e2:(s:Int).tmod (t.size:Int)=(r:Int):=by rw[Int.tmod_eq_emod_of_nonneg (by omega),hr,Int.natCast_emod]
   have hwp:IntKind.i64.wrap (s:Int)=(s:Int):=by rw[IntKind.wrap_i64];omega
   have hwr:IntKind.i64.wrap (r:Int)=(r:Int):=by rw[IntKind.wrap_i64];omega
   have hrz:(r:Int)<(t.size:Int):=by omega
   have htn:¬((t.size:Int)=0):=by omega
   obtain⟨y,hy,hyt⟩:∃ y:UInt8,t[r]=y/\y.toNat=lastB t x:=⟨_,rfl,by rw[bt_get];unfold lastB;rw[hr,hs]⟩;rw[<-hyt]at HN;have HBL:=hideO (blB_len t (ordF t) k);obtain⟨bs,hbs⟩:∃ bs,bs=blB t (ordF t) k:=⟨_,rfl⟩;rw[<-hbs]at O1 HN HBL;obtain⟨m,hm⟩:∃ m,m=atK (ordF t) k:=⟨_,rfl⟩;rw[<-hm]at HA ⊢
   have hmk:m<=k:=by rw[hm];exact atK_le _ _
   clear hc ey hown ho1 hx hs hr hyt hbs hm;have HY:=hideO (UInt8.toNat_lt y)
   go_wp2_with (at_builtin;refine wpList_append_own0 _ rfl (.tmp 17) (.tmp 31) 22 rfl (w1.heap.size+1) 5 i0 (.int .u8 0) 1 1 underlying22 hi0 hz0 hz1 hz2 rfl (by decide) _ bs.length (bs.map bv) rfl (Own0.alloc O1.o _) ⟨wr.heap.size,0,none⟩ 1 1 [.int .u8 (y.toNat:Nat)] rfl rfl (one_newB _ _ _) (one_cellB _) (by decide) (by unfold maxLen;have:=HBL.o;omega) (by have:=HBL.o;omega) (by simp;omega) ?_)
   intro v' w5 hown' hb5;have N5:=hideO (own0B_snoc (by omega) (by have:=HY.o;omega) hown');have ba:Below (w1.heap.size+1) wr w5:=((Below.refl (w1.heap.size+1) wr).alloc (by omega) _).trans (hb5 _ nl);have B5:=hideO (GB.o.trans (ba.mono (by omega)));have c5:=HC.o w5 B5.o;have z5:=ba.size;clear hown' hb5 ba ci;by_cases hx0:x=0
   ·subst hx0
    have HM:=hideO (HA.o.1 rfl);(go_wp2_with fail)
    go_roundw
    case rel=>exact⟨k+1,by go_num,by omega,by rw[HM.o],by rw[HN.o];exact N5.o,by omega,B5.o⟩
    case measure=>simp[intOf];omega
   ·have HM:=hideO (HA.o.2 hx0)
    have hxz:((x:Int)==0)=false:=by simpa using hx0
    (go_wp2_with fail)
    go_roundw
    case rel=>exact⟨k+1,by go_num,by omega,by rw[HM.o],by rw[HN.o];exact N5.o,by omega,B5.o⟩
    case measure=>simp[intOf];omega
  ·have hd0:decide ((k:Int)<(t.size:Int))=false:=decide_eq_false (by omega)
   obtain rfl:k=t.size:=by omega
   have hcv:=own0_string (P:=prog) (src:=22) (dst:=9) _ hown underlying22 underlying5 underlying9;have HQ:Hid ((⟨(blB t (ordF t) t.size).toArray⟩:ByteArray)=bwtT t):=HE.o.1.symm;have HQ2:Hid (atK (ordF t) t.size=bwtA t):=HE.o.2.1.symm;rw[HQ.o]at hcv;rw[HQ2.o];have BZ:=hideO (HB1.o.trans (GB.o.mono z1));clear hown
   go_wp2_with fail
   refine bodyPost_ret (v:=.tuple #[.string (bwtT t),.int .i64 (bwtA t:Nat)]) (by simp[results,results96,go_sem]) rfl ⟨rfl,BZ.o⟩
end So
namespace Fr
open Sh (IsB rowF upd made_row bt bt_get)
open Ze (hideZ)
open St (Aft)
open In (Ints IsI OwnI one_newI one_cellI)
open In.Tryz (infoI2)
open Ap (Own0 wpList_append_own0)
def Own0I (w:World) (lit base:Nat) (v:Value) (l:List Int):Prop :=
 w.heap[lit]? = some (.cells #[] 2 (0,0))/\((v=.slice (some ⟨lit,0,none⟩) 0 0/\l=[])∨OwnI w base v l)
theorem Own0I.own0 {w:World} {lit base:Nat} {v:Value} {l:List Int} (h:Own0I w lit base v l):Own0 w base 2 1 v l.length (l.map (Value.int .i64)):=by
 rcases h.2 with⟨rfl,rfl⟩|h
 ·exact .inl ⟨_,rfl,rfl,rfl⟩
 ·exact .inr h
theorem Own0I.done {w:World} {lit base:Nat} {v:Value} {l:List Int} (h:Own0I w lit base v l) (hb:lit<=base):OwnI w lit v l:=by
 obtain⟨he,⟨rfl,rfl⟩|h⟩:=h
 ·exact⟨rfl,.inr ⟨lit,0,#[],rfl,nl,he,nl,by decide,rfl,rfl⟩⟩
 ·exact h.mono hb
theorem Own0I.keep {w w':World} {lit base:Nat} {v:Value} {l:List Int} (h:Own0I w lit base v l) (hl:w'.heap[lit]? = w.heap[lit]?) (b:∀ k,base<=k->k<w.heap.size->w'.heap[k]? = w.heap[k]?):Own0I w' lit base v l:=by
 refine⟨hl.trans h.1,?_⟩
 rcases h.2 with h|⟨hl,h⟩
 ·exact .inl h
 ·refine .inr ⟨hl,?_⟩
  rcases h with h|⟨g,cap,cur,hv,hg,hb,rest⟩
  ·exact .inl h
  ·exact .inr ⟨g,cap,cur,hv,hg,by rw[b g hg (Array.getElem?_eq_some_iff.1 hb).1];exact hb,rest⟩
theorem frontOf_spec (t:ByteArray) (w:World) (hn:t.size<=1048576) :
  Calls prog 98 #[.string t] w fun e w'=>∃ v,e=.returned v/\OwnI w' w.heap.size v (frontR t.data.toList)/\Below w.heap.size w w':=by
 obtain⟨i0,hi0,hz0,hz1,hz2⟩:=info_parts infoI2
 have hdl:t.data.toList.length=t.size:=by simp
 have HB0:Hid (Below w.heap.size w (w.alloc (.cells #[] 2))):=(Below.refl _ _).alloc nl _;have HRS:=hideZ (row_spec (w.alloc (.cells #[] 2)));have HE0:Hid ((w.alloc (.cells #[] 2)).heap[w.heap.size]? = some (.cells #[] 2 (0,0))):=heap_alloc_last w _
 have zs:(w.alloc (.cells #[] 2)).heap.size=w.heap.size+1:=by simp
 rw[zs]at HRS;clear zs;by_cases hlong:400<t.size
 ·rw[frontR_no (by omega)]
  clear hdl;have hd4:decide ((t.size:Int)<=400)=false:=decide_eq_false (by omega);have hd0:decide ((0:Int)<(t.size:Int))=true:=decide_eq_true (by omega);go_enter func98,ntmps98
  go_wp2_with fail
  refine HRS.o.mono ?_;rintro e w1 ⟨rfl,hr1,hb1⟩;have HB1:=hideZ (HB0.o.trans (hb1.mono (by omega)));have HV:Hid (Own0I w1 w.heap.size (w.heap.size+2) (.slice (some ⟨w.heap.size,0,none⟩) 0 0) []):=⟨(hb1.block _ (by omega)).trans HE0.o,.inl ⟨rfl,rfl⟩⟩;clear hr1 hb1
  go_wp2_with fail
  go_loopw [5,3] (fun i u wr=>i=.int .i64 0/\u=.slice (some ⟨w.heap.size,0,none⟩) 0 0/\wr=w1) (fun _ _ _=>0)
  case atStart=>exact⟨rfl,rfl,rfl⟩
  case round =>
   obtain⟨rfl,rfl,rfl⟩:=hrel
   go_wp2_with fail
   go_ret;exact⟨_,rfl,HV.o.done (by omega),HB1.o⟩
 ·rw[frontR_yes (by omega)]
  have hd4:decide ((t.size:Int)<=400)=true:=decide_eq_true (by omega);have HDL:=hideZ hdl;clear hdl;go_enter func98,ntmps98
  go_wp2_with fail
  refine HRS.o.mono ?_;rintro e w1 ⟨rfl,hr1,hb1⟩;have HB1:=hideZ (HB0.o.trans (hb1.mono (by omega)));have HV:Hid (Own0I w1 w.heap.size (w.heap.size+2) (.slice (some ⟨w.heap.size,0,none⟩) 0 0) []):=⟨(hb1.block _ (by omega)).trans HE0.o,.inl ⟨rfl,rfl⟩⟩;have HR1:=hideZ hr1;clear hr1 hb1 HRS HE0;obtain⟨l,hl⟩:∃ l,l=t.data.toList:=⟨_,rfl⟩;rw[<-hl]at HDL;have HL:=hideZ hl;clear hl
  go_wp2_with fail
  go_loopw [5,3] (fun i u wr=>∃ k:Nat,i=.int .i64 k/\k<=t.size/\IsB wr (w.heap.size+1) 5 .u8 256 (fst' (l.take k)).2/\Own0I wr w.heap.size (w.heap.size+2) u (fst' (l.take k)).1/\Below w.heap.size w wr) (fun i _ _=>t.size-(intOf i).toNat)
  case atStart=>exact⟨0,rfl,Nat.zero_le _,HR1.o,HV.o,HB1.o⟩
  case round =>
   obtain⟨k,rfl,hk,hrow,hown,hbel⟩:=hrel;obtain⟨hfull,hlen⟩:=fst_full l k (by have:=HDL.o;omega);have R1:=hideZ hrow;have O1:=hideZ hown;have GB:=hideZ hbel;have hgs:=hrow.lt;clear hbel;by_cases hlt:k<t.size
   ·have hd0:decide ((k:Int)<(t.size:Int))=true:=decide_eq_true (by omega)
    obtain⟨hkl',hget⟩:=list_get t k hlt;have hkl:k<l.length:=(by rw[HDL.o];exact hlt)
    have hge:l[k]=t[k]:=by
     have:=HL.o
     subst this;exact hget
    have HM:=hideZ (fst_more hkl);rw[hge]at HM;obtain⟨c,hc⟩:∃ c:UInt8,t[k]=c:=⟨_,rfl⟩;rw[hc]at HM;obtain⟨f,hf⟩:∃ f,f=(fst' (l.take k)).2:=⟨_,rfl⟩;obtain⟨ps,hps⟩:∃ ps,ps=(fst' (l.take k)).1:=⟨_,rfl⟩;rw[<-hf]at R1 HM hfull;rw[<-hps]at O1 HM hlen;have hlk:=look_some hfull (c:=c.toNat) (UInt8.toNat_lt _);obtain⟨q,hq⟩:∃ q,q=look f c.toNat:=⟨_,rfl⟩;rw[<-hq]at hlk HM;have hq256:=hlk.1;have HLK:=hideZ hlk.2;have HLE:=hideZ hlen;have HFU:=hideZ hfull;clear hget hge hf hps hrow hown hfull hlen hlk hq;(go_wp2_with fail)
    go_loopw [6] (fun i wr2=>∃ p:Nat,i=.int .i64 p/\p<=q/\IsB wr2 (w.heap.size+1) 5 .u8 256 f/\Own0I wr2 w.heap.size (w.heap.size+2) u3 ps/\Below w.heap.size w wr2) (fun i _=>q-(intOf i).toNat)
    case atStart=>exact⟨0,rfl,Nat.zero_le _,R1.o,O1.o,GB.o⟩
    case round =>
     obtain⟨p,rfl,hp,hrow2,hown2,hbel2⟩:=hrel;have R2:=hideZ hrow2;have O2:=hideZ hown2;have GB2:=hideZ hbel2;have hgs2:=hrow2.lt;have c1:=hrow2.cell (j:=p) (by omega);have hbnd:=HFU.o.2 p (by omega);obtain⟨y,hy⟩:∃ y,y=f p:=⟨_,rfl⟩;rw[<-hy]at c1 hbnd;have HY:=hideZ hy;clear hrow2 hown2 hbel2 hy;by_cases hpq:p=q
     ·have hyc:(y==((c.toNat:Nat):Int))=true:=beq_iff_eq.2 (by rw[HY.o,hpq];exact HLK.o.1)
      have hq1:q<256:=hq256;have HR3:Hid (∀ nq,IsB (wr.drewN nq) (w.heap.size+1) 5 .u8 256 f):=fun nq=>R2.o;have HO3:Hid (∀ nq,Own0I (wr.drewN nq) w.heap.size (w.heap.size+2) u3 ps):=fun nq=>O2.o.keep rfl (fun _ _ _=>rfl);have HB3:Hid (∀ nq,Below w.heap.size w (wr.drewN nq)):=fun nq=>below_drewN GB2.o nq;rw[<-hpq]at HM;clear hpq;(go_wp2_with fail)
      go_quiet (fail)
      have R4:=HR3.o nq;have O4:=HO3.o nq;have B4:=HB3.o nq;have z4:w.heap.size+1<(wr.drewN nq).heap.size:=hgs2;generalize wr.drewN nq=W at R4 O4 B4 z4 ⊢;have HR4:=hideZ R4;have HO4:=hideZ O4;have HB4:=hideZ B4;clear R4 O4 B4 HR3 HO3 HB3 c1
      go_wp2_with (at_builtin;refine wpList_append_own0 _ rfl (.tmp 30) (.tmp 32) 69 rfl (w.heap.size+2) 2 i0 (.int .i64 0) 1 8 underlying69 hi0 hz0 hz1 hz2 rfl (by decide) _ ps.length (ps.map (Value.int .i64)) rfl (Own0.alloc HO4.o.own0 _) ⟨W.heap.size,0,none⟩ 1 1 [.int .i64 (p:Int)] rfl rfl (one_newI _ _ _) (one_cellI _) (by decide) (by unfold maxLen;have:=HLE.o;omega) (by have:=HLE.o;omega) (by simp;omega) ?_)
      intro v' w5 hown' hb5;have ba:Below (w.heap.size+2) W w5:=((Below.refl (w.heap.size+2) W).alloc (by omega) _).trans (hb5 _ nl);have N5:Hid (Own0I w5 w.heap.size (w.heap.size+2) v' (ps++[(p:Int)])):=⟨(ba.block _ (by omega)).trans HO4.o.1,.inr (In.OwnI.snoc hown')⟩;have R5:=hideZ (HR4.o.below ba (by omega));have B5:=hideZ (HB4.o.trans (ba.mono (by omega)));have HFS:=hideZ (front_spec (w.heap.size+1) p 256 5 f w5 R5.o (by omega));have z5:=ba.size;clear hown' hb5 ba;(go_wp2_with fail);refine HFS.o.mono ?_;rintro e w6 ⟨rfl,hr6,ha6⟩;have R6:=hideZ hr6;have N6:=hideZ (N5.o.keep (ha6.2.2.2.2 _ (by omega) (by omega)) (fun j hj1 hj2=>ha6.2.2.2.2 j hj2 (by omega)));have B6:=hideZ (Aft.below B5.o ha6 (by omega) (by omega));clear hr6 ha6;(go_wp2_with fail)
      go_roundw
      case rel=>exact⟨k+1,by go_num,by omega,by rw[HM.o];exact R6.o,by rw[HM.o];exact N6.o,B6.o⟩
      case measure=>simp[intOf];omega
     ·have hyc:(y==((c.toNat:Nat):Int))=false:=beq_eq_false_iff_ne.2 (by rw[HY.o];exact HLK.o.2 p (by omega))
      (go_wp2_with fail)
      go_quiet (fail)
      all_goals (try go_wp2_with fail)
      go_roundw
      case rel=>exact⟨p+1,by go_num,by omega,R2.o,O2.o.keep rfl (fun _ _ _=>rfl),below_drewN GB2.o _⟩
      case measure=>simp[intOf];omega
   ·have hd0:decide ((k:Int)<(t.size:Int))=false:=decide_eq_false (by omega)
    obtain rfl:k=t.size:=by omega
    have HT:Hid (l.take t.size=l):=by
     unfold Hid;rw[<-HDL.o,List.take_length]
    rw[HT.o,HL.o]at hown;have HVV:=hideZ (hown.done (by omega));clear hrow hown hfull hlen;(go_wp2_with fail);go_ret;exact⟨_,rfl,HVV.o,GB.o⟩
end Fr
namespace St
def IsStrs (w:World) (a:Option Addr) (len cap:Nat) (ss:List ByteArray):Prop :=
 (a=none/\len=0/\cap=0/\ss=[]) ∨
 ∃ x,a=some x/\len<=cap/\cap<=maxLen/\ss.length=cap/\(∀ i,i<ss.length->w.cell? (x.add i)=some (.string (ss.getD i ByteArray.empty)))/\∀ s∈ss,s.size<=maxLen
end St
namespace Bi
open In (Ints IsI OwnIn OwnI one_newI one_cellI)
open St (IsS Strs)
def OutV (w:World) (g:Nat) (v:Value) (p:Int):Prop:=w.heap[g]? = some (.cells #[v,.int .i64 p,.int .i64 0] 231 (0,0))
end Bi
namespace Bi
open In (Ints IsI OwnIn OwnI)
open St (Aft)
end Bi
namespace So
open Go.RowKit Go.Sort Go.Proofs
open Sh (bt bt_get bt_lt strF IsB)
open In (OwnI Ints one_newI one_cellI)
open In.Tryz (infoI2)
open Nu (bv)
open Ap (Own0 wpList_append_own0)
open Fr (Own0B own0_string one_newB one_cellB own0B_snoc)
end So
namespace So
open Go.RowKit Go.Sort Go.Proofs
end So
namespace Kp
open Gn (rd rt run numR run_place rd_place)
theorem run_more (s:ByteArray):∀ f k p u,(run s f k p u).2.2=0->p<(run s f k p u).2.1:=by
 intro f
 induction f with
 |zero=>intro k p u h;exact absurd h (by rw[run];decide)
 |succ f ih =>
  intro k p u;rw[run]
  split
  ·intro h;exact absurd h (by decide)
  ·split
   ·intro h;exact absurd h (by decide)
   ·split
    ·split
     ·intro h;exact absurd h (by decide)
     ·intro _;exact Nat.lt_succ_self _
    ·intro h
     have:=ih _ _ _ h
     omega
theorem rd_more (s:ByteArray) (a:Int) (h:(rd s a).2.2=0):a.toNat<(rd s a).2.1/\(rd s a).2.1<=s.size/\s.size<=8000:=by
 have h1:=rd_place s a h;refine⟨?_,h1.2,h1.1⟩;unfold rd at h ⊢
 split at h
 ·exact absurd h (by decide)
 ·split at h
  ·exact absurd h (by decide)
  ·rename_i h1 h2
   rw[if_neg h1,if_neg h2];exact run_more s 10 0 a.toNat 0 h
theorem rt_more (s:ByteArray) (a:Int) (h:(rt s a).2.2=0):a.toNat<(rt s a).2.1/\(rt s a).2.1<=s.size/\s.size<=8000/\(rt s a).1.size<=8000:=by
 unfold rt at h ⊢
 split at h
 ·rename_i h1
  exact absurd h h1
 ·rename_i h1
  have h1':(rd s a).2.2=0:=Decidable.not_not.1 h1;have hm:=rd_more s a h1'
  split at h
  ·exact absurd h (by decide)
  ·rename_i h2
   split at h
   ·exact absurd h (by decide)
   ·rename_i h3
    rw[if_neg h1,if_neg h2,if_neg h3];refine⟨?_,?_,hm.2.2,?_⟩
    ·show a.toNat<(rd s a).2.1+(rd s a).1.toNat
     omega
    ·show (rd s a).2.1+(rd s a).1.toNat<=s.size
     omega
    ·show (s.extract _ _).size<=8000
     rw[ByteArray.size_extract];omega
abbrev Rec:=Int × ByteArray × List ByteArray
def pathR (s:ByteArray):Nat->Nat->List ByteArray->Option (List ByteArray × Nat)
 |0,e,l=>some (l,e)
 |n+1,e,l=>if (rt s e).2.2=0 then pathR s n (rt s e).2.1 (l++[(rt s e).1]) else none
theorem pathR_yes {s:ByteArray} {n e:Nat} {l:List ByteArray} (h:(rt s e).2.2=0):pathR s (n+1) e l=pathR s n (rt s e).2.1 (l++[(rt s e).1]):=by
 rw[pathR,if_pos h]
theorem pathR_no {s:ByteArray} {n e:Nat} {l:List ByteArray} (h:¬(rt s e).2.2=0):pathR s (n+1) e l=none:=by
 rw[pathR,if_neg h]
theorem pathR_facts {s:ByteArray}:∀ {n e:Nat} {l:List ByteArray} {q:List ByteArray × Nat},pathR s n e l=some q->q.1.length=l.length+n/\e<=q.2
 |0,e,l,q,h=>by
  rw[pathR]at h
  cases h
  exact⟨rfl,nl⟩
 |n+1,e,l,q,h=>by
  by_cases hc:(rt s e).2.2=0
  ·rw[pathR_yes hc]at h
   have h1:=pathR_facts h;have h2:=(rt_more s e hc).1;rw[List.length_append]at h1;simp at h1 h2;omega
  ·rw[pathR_no hc]at h
   cases h
def innerOk (s:ByteArray):Prop:=(rd s 0).2.2=0/\(rt s (rd s 0).2.1).2.2=0/\(rd s (rt s (rd s 0).2.1).2.1).2.2=0/\0<=(rd s (rt s (rd s 0).2.1).2.1).1/\(rd s (rt s (rd s 0).2.1).2.1).1<=20
instance (s:ByteArray):Decidable (innerOk s):=by unfold innerOk;infer_instance
def innerR (s:ByteArray):Option Rec :=
 if innerOk s then
  match pathR s (rd s (rt s (rd s 0).2.1).2.1).1.toNat (rd s (rt s (rd s 0).2.1).2.1).2.1 [] with
  |some q=>if q.2=s.size then some ((rd s 0).1,(rt s (rd s 0).2.1).1,q.1) else none
  |none=>none
 else none
def usT (s:ByteArray):ByteArray:=if 8000<s.size then ⟨#[]⟩ else if s.size<4 then ⟨#[]⟩ else if Se.sealV (s.extract 0 (s.size-4))=s then s.extract 0 (s.size-4) else ⟨#[]⟩
def usC (s:ByteArray):Int:=if 8000<s.size then 2 else if s.size<4 then 4 else if Se.sealV (s.extract 0 (s.size-4))=s then 0 else 5
theorem unseal_all (s:ByteArray):Se.unsealV s=.agg #[.string (usT s),.int .i64 0,.int .i64 (usC s)]:=by
 unfold Se.unsealV usT usC
 split
 ·rfl
 ·split
  ·rfl
  ·split
   ·rfl
   ·rfl
def recR (s:ByteArray) (e:Nat):Option (Rec × Nat) :=
 if (rt s e).2.2=0/\usC (rt s e).1=0 then (innerR (usT (rt s e).1)).map (fun r=>(r,(rt s e).2.1)) else none
theorem innerR_facts {s:ByteArray} {r:Rec} (h:innerR s=some r):r.2.2.length<=20/\r.2.1.size<=8000/\s.size<=8000:=by
 unfold innerR at h
 split at h
 ·rename_i hok
  obtain⟨h1,h2,h3,h4,h5⟩:=hok
  split at h
  ·rename_i q hq
   have hf:=pathR_facts hq
   split at h
   ·cases h
    have:=rt_more _ _ h2
    refine⟨?_,this.2.2.2,this.2.2.1⟩
    show q.1.length<=20
    rw[hf.1];simp;omega
   ·cases h
  ·cases h
 ·cases h
theorem recR_facts {s:ByteArray} {e:Nat} {x:Rec × Nat} (h:recR s e=some x):e<x.2/\x.2<=s.size/\s.size<=8000/\x.1.2.2.length<=20/\x.1.2.1.size<=8000:=by
 unfold recR at h
 split at h
 ·rename_i hc
  have h1:=rt_more s e hc.1;obtain⟨r,hr,rfl⟩:=Option.map_eq_some_iff.1 h;have h2:=innerR_facts hr;exact⟨by simpa using h1.1,h1.2.1,h1.2.2.1,h2.1,h2.2.1⟩
 ·cases h
def hasR (out:List Rec) (i:Int):Bool:=out.any fun r=>r.1==i
def goR (fit:Rec->Bool) (s:ByteArray):Nat->List Rec->Nat->List Rec × Nat
 |0,out,e=>(out,e)
 |f+1,out,e=>if e<s.size then
   match recR s e with
   |some x=>if fit x.1=true/\hasR out x.1.1=false then goR fit s f (out++[x.1]) x.2 else (out,e)
   |none=>(out,e)
  else (out,e)
theorem goR_end {fit:Rec->Bool} {s:ByteArray} {f e:Nat} {out:List Rec} (h:s.size<=e):goR fit s f out e=(out,e):=by
 cases f with
 |zero=>rfl
 |succ f=>rw[goR,if_neg (by omega)]
theorem goR_none {fit:Rec->Bool} {s:ByteArray} {f e:Nat} {out:List Rec} (h:recR s e=none):goR fit s f out e=(out,e):=by
 cases f with
 |zero=>rfl
 |succ f =>
  rw[goR,h]
  split<;>rfl
theorem goR_bad {fit:Rec->Bool} {s:ByteArray} {f e:Nat} {out:List Rec} {x:Rec × Nat} (h:recR s e=some x) (hb:¬(fit x.1=true/\hasR out x.1.1=false)):goR fit s f out e=(out,e):=by
 cases f with
 |zero=>rfl
 |succ f =>
  rw[goR,h]
  split
  ·exact if_neg hb
  ·rfl
theorem goR_fuel {fit:Rec->Bool} {s:ByteArray}:∀ (f g e:Nat) (out:List Rec),s.size-e<=f->s.size-e<=g->goR fit s f out e=goR fit s g out e:=by
 intro f
 induction f with
 |zero=>intro g e out h1 h2;rw[goR_end (by omega),goR_end (by omega)]
 |succ f ih =>
  intro g e out h1 h2;by_cases he:e<s.size
  ·cases g with
   |zero=>omega
   |succ g =>
    rw[goR,goR,if_pos he,if_pos he]
    cases hr:recR s e with
    |none=>rfl
    |some x =>
     have:=recR_facts hr
     show (if _ then _ else _)=(if _ then _ else _)
     split
     ·exact ih g x.2 _ (by omega) (by omega)
     ·rfl
  ·rw[goR_end (by omega),goR_end (by omega)]
theorem goR_step {fit:Rec->Bool} {s:ByteArray} {e:Nat} {out:List Rec} {x:Rec × Nat} (h:recR s e=some x) (h1:fit x.1=true) (h2:hasR out x.1.1=false):goR fit s (s.size-e) out e=goR fit s (s.size-x.2) (out++[x.1]) x.2:=by
 have hf:=recR_facts h;obtain⟨k,hk⟩:∃ k,s.size-e=k+1:=⟨s.size-e-1,by omega⟩;rw[hk,goR,if_pos (by omega),h]
 show (if _ then _ else _)=_
 rw[if_pos ⟨h1,h2⟩];exact goR_fuel _ _ _ _ (by omega) nl
def allR (fit:Rec->Bool) (s:ByteArray):List Rec × Nat:=goR fit s (s.size-0) [] 0
theorem goR_le {fit:Rec->Bool} {s:ByteArray}:∀ (f e:Nat) (out:List Rec),e<=s.size->e<=(goR fit s f out e).2/\(goR fit s f out e).2<=s.size:=by
 intro f
 induction f with
 |zero=>intro e out h;exact⟨nl,h⟩
 |succ f ih =>
  intro e out h;by_cases he:e<s.size
  ·rw[goR,if_pos he]
   cases hr:recR s e with
   |none=>exact⟨nl,h⟩
   |some x =>
    have hf:=recR_facts hr
    show e<=(if _ then _ else _:List Rec × Nat).2/\(if _ then _ else _:List Rec × Nat).2<=_
    split
    ·have:=ih x.2 (out++[x.1]) hf.2.1
     omega
    ·exact⟨nl,h⟩
  ·rw[goR_end (by omega)]
   exact⟨nl,h⟩
theorem goR_many {fit:Rec->Bool} {s:ByteArray}:∀ (f e:Nat) (out:List Rec),out.length<=e->(goR fit s f out e).1.length<=(goR fit s f out e).2:=by
 intro f
 induction f with
 |zero=>intro e out h;exact h
 |succ f ih =>
  intro e out h;by_cases he:e<s.size
  ·rw[goR,if_pos he]
   cases hr:recR s e with
   |none=>exact h
   |some x =>
    have hf:=recR_facts hr
    show (if _ then _ else _:List Rec × Nat).1.length<=(if _ then _ else _:List Rec × Nat).2
    split
    ·exact ih x.2 (out++[x.1]) (by rw[List.length_append];simp;omega)
    ·exact h
  ·rw[goR_end (by omega)]
   exact h
theorem allR_many (fit:Rec->Bool) (s:ByteArray):(allR fit s).1.length<=(allR fit s).2:=goR_many _ _ _ (Nat.zero_le _)
theorem allR_le (fit:Rec->Bool) (s:ByteArray):(allR fit s).2<=s.size:=(goR_le _ _ _ (Nat.zero_le _)).2
end Kp
namespace Kp
open Gn (rd rt tupV errV readText_any)
open St (OwnS one_newS one_cellS app_one)
theorem readPath_any (s:ByteArray) (e n:Nat) (w:World) (hs:s.size<=maxLen) (hn:n<=20) :
  Calls prog 108 #[.string s,.int .i64 e,.int .i64 n] w fun r w' =>
   ((∃ q v,pathR s n e []=some q/\r=.returned (.tuple #[v,.int .i64 q.2,.nilIface])/\OwnS w' w.heap.size v q.1) ∨
   (pathR s n e []=none/\∃ c,r=.returned (.tuple #[.slice none 0 0,.int .i64 0,.iface 171 (.agg #[.int .i64 c])])))/\Below w.heap.size w w':=by
 obtain⟨i0,hif,hz0,hz1,hz2⟩:=info_parts St.Tryz.infoS9;go_enter func108,ntmps108
 go_wp2_with fail
 go_loopw [14,1,9,10,11,12] (fun jv ev tv _ _ _ wr=>∃ (j e1:Nat) (l:List ByteArray),jv=.int .i64 j/\ev=.int .i64 e1/\j<=n/\l.length=j/\pathR s n e []=pathR s (n-j) e1 l/\OwnS wr w.heap.size tv l/\Below w.heap.size w wr) (fun jv _ _ _ _ _ _=>n-(intOf jv).toNat)
 case atStart=>exact⟨0,e,[],rfl,rfl,Nat.zero_le _,rfl,rfl,OwnS.nil _ _,Below.refl _ _⟩
 case round =>
  obtain⟨j,e1,l,rfl,rfl,hj,hl,hp,ho,hbw⟩:=hrel;have O:=hideK ho;have BW:=hideK hbw;have HP:=hideK hp;have HL:=hideK hl;have hzr:=hbw.size;clear ho hbw hp hl;by_cases hlt:j<n
  ·have hlt':(j:Int)<(n:Int):=by omega
   have hnj:n-j=(n-(j+1))+1:=by omega
   have HNJ:=hideK hnj;clear hnj;have HRT:=hideK (fun W=>readText_any s e1 W hs);unfold tupV at HRT;have HY:=hideK (fun h=>pathR_yes (s:=s) (n:=n-(j+1)) (e:=e1) (l:=l) h);have HN:=hideK (fun h=>pathR_no (s:=s) (n:=n-(j+1)) (e:=e1) (l:=l) h);generalize rt s e1=x at HRT HY HN;obtain⟨tx,p,c⟩:=x;dsimp only at HRT HY HN;by_cases hc:c=0
   ·have HY1:=hideK (HY.o hc)
    simp only[errV,if_pos hc]at HRT;clear HY HN hc;(go_wp2_with fail);refine(HRT.o _).mono ?_;rintro e w3 ⟨rfl,hb⟩;have O3:=hideK (O.o.below hb);have B3:=hideK (BW.o.trans (hb.mono hzr));have hz3:=B3.o.size;clear hb O HRT
    go_wp2_with (at_builtin;refine wpList_append_own _ rfl (.tmp 26) (.tmp 28) 31 rfl w.heap.size 9 i0 (.string ⟨#[]⟩) 1 16 underlying31 hif hz0 hz1 hz2 rfl (by decide) _ _ _ rfl (World.ownsRow.alloc O3.o _) ⟨w3.heap.size,0,none⟩ 1 1 [.string tx] rfl rfl (one_newS w3 _ _) (one_cellS _) (by rw[HL.o];unfold maxLen;omega) (by rw[HL.o];omega) (by simp;omega) ?_)
    intro v' w4 hown hgrow _;have O4:=hideK (OwnS.snoc hown);have B4:=hideK (app_one B3.o hz3 nl O3.o hgrow);clear hown hgrow;(go_wp2_with fail)
    go_roundw
    case rel=>exact⟨j+1,p,l++[tx],by go_num,rfl,by omega,by rw[List.length_append,HL.o];rfl,by rw[HP.o,HNJ.o,HY1.o],O4.o,B4.o⟩
    case measure=>simp[intOf];omega
   ·have HN1:=hideK (HN.o hc)
    simp only[errV,if_neg hc]at HRT;clear HY HN hc;(go_wp2_with fail);refine(HRT.o _).mono ?_;rintro e w3 ⟨rfl,hb⟩;have B3:=hideK (BW.o.trans (hb.mono hzr));clear hb O HRT;(go_wp2_with fail)
    go_ret3
    exact⟨.inr ⟨by rw[HP.o,HNJ.o,HN1.o],c,rfl⟩,B3.o⟩
  ·obtain rfl:j=n:=by omega
   have HE:Hid (pathR s j e []=some (l,e1)):=by
    unfold Hid;rw[HP.o,Nat.sub_self,pathR]
   go_wp2_with fail
   go_ret3
   exact⟨.inl ⟨(l,e1),_,HE.o,rfl,O.o⟩,BW.o⟩
end Kp
namespace Kp
open St (IsO OwnS Strs)
open Ls (blkL lowL blk_alloc cells3)
abbrev MR:=Rec × Value
def recV (x:MR):Value:=.agg #[.int .i64 x.1.1,.string x.1.2.1,x.2]
def recZ:Value:=.agg #[.int .i64 0,.string ⟨#[]⟩,.slice none 0 0]
def cellsR:List MR->List Value
 |[]=>[]
 |x :: m=>.int .i64 x.1.1 :: .string x.1.2.1 :: x.2 :: cellsR m
theorem cellsR_append:∀ m k:List MR,cellsR (m++k)=cellsR m++cellsR k
 |[],k=>rfl
 |x :: m,k=>by
  rw[List.cons_append,cellsR,cellsR,cellsR_append m k];rfl
theorem cellsR_at:∀ (m:List MR) (i:Nat) (h:i<m.length),(cellsR m)[i*3]? = some (.int .i64 m[i].1.1)/\(cellsR m)[i*3+1]? = some (.string m[i].1.2.1)/\(cellsR m)[i*3+2]? = some m[i].2
 |x :: m,0,_=>⟨rfl,rfl,rfl⟩
 |x :: m,i+1,h=>by
  have:=cellsR_at m i (Nat.lt_of_succ_lt_succ h)
  rw[cellsR,show (i+1)*3=i*3+3 by omega,show i*3+3+1=(i*3+1)+3 by omega,show i*3+3+2=(i*3+2)+3 by omega];exact this
def KeepsS (W W':World):Prop:=∀ (g:Nat) (cur:Array Value),W.heap[g]? = some (.cells cur 9 (0,0))->W'.heap[g]? = some (.cells cur 9 (0,0))
theorem KeepsS.trans {W W' W'':World} (h:KeepsS W W') (k:KeepsS W' W''):KeepsS W W'':=fun g cur e=>k g cur (h g cur e)
theorem KeepsS.below {W W':World} (h:Below W.heap.size W W'):KeepsS W W':=fun g _ e=>(h.block g (lt_rowK e)).trans e
theorem KeepsS.set {W:World} {g:Nat} {cs:Array Value} {e:TypeId} (hg:W.heap[g]? = some (.cells cs e (0,0))) (he:e≠9) (i:Nat) (v:Value):KeepsS W (W.setCell ⟨g,i,none⟩ v):=fun k cur h=>by
 rw[heap_setCell_other W _ k v (by
  rintro rfl;rw[hg]at h;simp at h
  exact he h.2)]
 exact h
theorem KeepsS.grown {W W':World} {row:Option Nat} (h:W.grownBy W' row) (hr:∀ k,row=some k->∃ cs t,W.heap[k]? = some (.cells cs t (0,0))/\t≠9):KeepsS W W':=fun g cur e=>by
 rw[h.block g (lt_rowK e) (by
  intro hg;obtain⟨cs,t,hk,ht⟩:=hr g hg.symm;rw[hk]at e;simp at e
  exact ht e.2)]
 exact e
def PathIn (W:World) (v:Value) (p:List ByteArray):Prop :=
 (v=.slice none 0 0/\p=[])∨∃ g cap,v=.slice (some ⟨g,0,none⟩) p.length cap/\p.length<=cap/\IsO W g 9 p
theorem PathIn.keeps {W W':World} {v:Value} {p:List ByteArray} (h:PathIn W v p) (k:KeepsS W W'):PathIn W' v p:=by
 rcases h with h|⟨g,cap,hv,hc,cur,hg,hj⟩
 ·exact .inl h
 ·exact .inr ⟨g,cap,hv,hc,cur,k g cur hg,hj⟩
theorem pathIn_own {W:World} {base:Nat} {v:Value} {p:List ByteArray} (h:OwnS W base v p):PathIn W v p:=by
 rcases h.split with h|⟨g,cap,hv,_,hc,ho⟩
 ·exact .inl h
 ·exact .inr ⟨g,cap,hv,hc,ho⟩
theorem PathIn.strs {W:World} {v:Value} {p:List ByteArray} (h:PathIn W v p):∃ a cap,v=.slice a p.length cap/\p.length<=cap/\Strs W W.heap.size a p:=by
 rcases h with⟨rfl,rfl⟩|⟨g,cap,rfl,hc,ho⟩
 ·exact⟨none,0,rfl,nl,.inl rfl⟩
 ·exact⟨_,cap,rfl,hc,ho.strs ho.lt⟩
def OwnR (W:World) (base:Nat) (v:Value) (m:List MR):Prop:=W.ownsRow base 58 3 v m.length (cellsR m)
def Paths (W:World) (m:List MR):Prop:=∀ x∈m,PathIn W x.2 x.1.2.2
theorem Paths.keeps {W W':World} {m:List MR} (h:Paths W m) (k:KeepsS W W'):Paths W' m:=fun x hx=>(h x hx).keeps k
theorem OwnR.nil (w:World) (base:Nat):OwnR w base (.slice none 0 0) []:=World.ownsRow_nil w base _ _
theorem OwnR.alloc {W:World} {base:Nat} {v:Value} {m:List MR} (h:OwnR W base v m) (o:Obj):OwnR (W.alloc o) base v m:=World.ownsRow.alloc h o
theorem OwnR.below {w w':World} {base:Nat} {v:Value} {m:List MR} (h:OwnR w base v m) (b:Below w.heap.size w w'):OwnR w' base v m:=by
 obtain⟨hl,h⟩:=h;refine⟨hl,?_⟩
 rcases h with h|⟨g,cap,cur,hv,hg,hb,rest⟩
 ·exact .inl h
 ·exact .inr ⟨g,cap,cur,hv,hg,by rw[b.block g (lt_rowK hb)];exact hb,rest⟩
theorem OwnR.one {W:World} {base:Nat} {v:Value} {m:List MR} (h:OwnR W base v m):∃ a cap,v=.slice a m.length cap:=by
 obtain⟨_,h⟩:=h
 rcases h with⟨h,h0⟩|⟨g,cap,cur,hv,_⟩
 ·exact⟨none,0,by rw[h,h0]⟩
 ·exact⟨_,cap,hv⟩
theorem OwnR.cells {W:World} {base:Nat} {v:Value} {m:List MR} (h:OwnR W base v m) (h0:0<m.length):∃ g cap,v=.slice (some ⟨g,0,none⟩) m.length cap/\base<=g/\g<W.heap.size/\m.length<=cap /\
  ∀ i (hi:i<m.length),W.cell? ⟨g,i*3,none⟩=some (.int .i64 m[i].1.1)/\W.cell? ⟨g,i*3+1,none⟩=some (.string m[i].1.2.1)/\W.cell? ⟨g,i*3+2,none⟩=some m[i].2:=by
 obtain⟨_,h⟩:=h
 rcases h with⟨_,h⟩|⟨g,cap,cur,hv,hg,hb,hn,_,hs,ht⟩
 ·omega
 ·refine⟨g,cap,hv,hg,lt_rowK hb,hn,fun i hi=>?_⟩
  have hc:=cellsR_at m i hi;rw[<-ht]at hc;rw[List.getElem?_take_of_lt (by omega),List.getElem?_take_of_lt (by omega),List.getElem?_take_of_lt (by omega),Array.getElem?_toList,Array.getElem?_toList,Array.getElem?_toList]at hc;exact⟨(cell_of_row W g _ _ _ _ hb).trans hc.1,(cell_of_row W g _ _ _ _ hb).trans hc.2.1,(cell_of_row W g _ _ _ _ hb).trans hc.2.2⟩
theorem OwnR.rowT {W:World} {base:Nat} {v:Value} {m:List MR} (h:OwnR W base v m):∀ k,v.ownBlock=some k->∃ cs,W.heap[k]? = some (.cells cs 58 (0,0)):=by
 intro k hk;obtain⟨_,h⟩:=h
 rcases h with⟨h,_⟩|⟨g,cap,cur,hv,_,hb,_⟩
 ·subst h
  simp[Value.ownBlock]at hk
 ·subst hv
  simp[Value.ownBlock]at hk;subst hk;exact⟨cur,hb⟩
theorem OwnR.snoc {W:World} {base:Nat} {v:Value} {m:List MR} {x:MR} (h:W.ownsRow base 58 3 v (m.length+1) (cellsR m++[.int .i64 x.1.1,.string x.1.2.1,x.2])):OwnR W base v (m++[x]):=by
 unfold OwnR;rw[List.length_append,cellsR_append];exact h
theorem three_new (W:World) (x y z:Value) (t:TypeId):∀ (j:Nat) (u:Value),[x,y,z][j]? = some u->(W.alloc (.cells #[x,y,z] t)).cell? ((⟨W.heap.size,0,none⟩:Addr).add j)=some u:=by
 intro j u hj
 match j,hj with
 |0,hj=>simp at hj;subst hj;simp[Addr.add]
 |1,hj=>simp at hj;subst hj;simp[Addr.add]
 |2,hj=>simp at hj;subst hj;simp[Addr.add]
theorem three_one {x y z:Value} (hx:x.oneCell'=true) (hy:y.oneCell'=true) (hz:z.oneCell'=true):∀ u∈[x,y,z],u.oneCell'=true:=by
 intro u hu;simp at hu
 rcases hu with rfl|rfl|rfl
 ·exact hx
 ·exact hy
 ·exact hz
def recs (m:List MR):List Rec:=m.map (·.1)
theorem recs_length (m:List MR):(recs m).length=m.length:=List.length_map ..
theorem hasR_recs (m:List MR) (i:Int):hasR (recs m) i=m.any fun x=>x.1.1==i:=by
 unfold hasR recs;rw[List.any_map];rfl
end Kp
namespace Kp
open Ls (blkL lowL)
def spanB (s:ByteArray) (y:Int):Bool:=decide (0<=y) && decide (y<=s.size)
theorem synced_any (z b:Int) (r s:ByteArray) (y:Int) (w:World) :
  Calls prog 48 #[kV z b r s y] w fun e w'=>e=.returned (.bool (spanB s y))/\Below w.heap.size w w':=by
 have HB:Hid (Below w.heap.size w (w.alloc (kB z b r s y))):=(Below.refl _ _).alloc nl _;unfold kV;unfold kB at HB;by_cases h0:0<=y
 ·have HM:Hid (spanB s y=decide (y<=((s.size:Nat):Int))):=by unfold Hid spanB;rw[decide_eq_true h0,Bool.true_and]
  rw[HM.o];go_enter func48,ntmps48
  go_wp2_with fail
  go_ret;exact⟨rfl,HB.o⟩
 ·have HM:Hid (spanB s y=false):=by unfold Hid spanB;rw[decide_eq_false h0,Bool.false_and]
  rw[HM.o];have h0':decide (0<=y)=false:=decide_eq_false h0;go_enter func48,ntmps48
  go_wp2_with fail
  go_ret;exact⟨rfl,HB.o⟩
end Kp
namespace Dr
open Nu (bv own_string)
def IsRow (k:IntKind) (w:World) (a:Option Addr) (len cap:Nat) (zs:List Int):Prop :=
 (a=none/\len=0/\cap=0/\zs=[]) ∨
 ∃ x,a=some x/\len<=cap/\cap<=maxLen/\zs.length=cap/\(∀ i,i<zs.length->w.cell? (x.add i)=some (.int k (zs.getD i 0)))/\∀ n∈zs,(Lit.int k n).wf=true
theorem row_of {w:World} {a:Option Addr} {len cap:Nat} {zs:List Int} (h:IsRow .u8 w a len cap zs):Row w w.heap.size a len:=by
 rcases h with⟨_,rfl,_⟩|⟨x,rfl,hlc,_,hz,hc,hw⟩
 ·exact .inl rfl
 ·rcases Nat.eq_zero_or_pos len with h0|h0
  ·exact .inl h0
  ·obtain⟨b,off,spot⟩:=x
   have hc0:=hc 0 (by omega)
   have hspot:spot=none:=by simpa [Addr.add] using World.cell?_spot hc0
   subst hspot
   have e:∀ i,(⟨b,off,none⟩:Addr).add i=⟨b,off+i,none⟩:=fun i=>by unfold Addr.add;split<;>simp_all
   have hlt:=World.block_lt_of_cell? w _ hc0;rw[e 0]at hlt;refine .inr ⟨b,off,rfl,hlt,fun i hi=>⟨zs.getD i 0,by rw[<-e i];exact hc i (by omega),?_⟩⟩
   have hi':i<zs.length:=by omega
   have hm:zs.getD i 0∈zs:=by rw[List.getD_eq_getElem?_getD,List.getElem?_eq_getElem hi'];exact List.getElem_mem hi'
   have:=hw _ hm
   simpa [Lit.wf,IntKind.min,IntKind.max,IntKind.signed,IntKind.bits] using this
theorem Row.below {w w':World} {B:Nat} {a:Option Addr} {len:Nat} (h:Row w B a len) (hb:Below B w w'):Row w' B a len:=by
 rcases h with h0|⟨b,off,rfl,hlt,hc⟩
 ·exact .inl h0
 ·refine .inr ⟨b,off,rfl,hlt,fun i hi=>?_⟩
  obtain⟨z,hz,z1,z2⟩:=hc i hi;exact⟨z,(hb.cell (p:=⟨b,off+i,none⟩) hlt).trans hz,z1,z2⟩
theorem Row.mono {w:World} {B C:Nat} {a:Option Addr} {len:Nat} (h:Row w B a len) (hBC:B<=C):Row w C a len:=by
 rcases h with h0|⟨b,off,rfl,hlt,hc⟩
 ·exact .inl h0
 ·exact .inr ⟨b,off,rfl,Nat.lt_of_lt_of_le hlt hBC,hc⟩
def zeroS (n:Nat):ByteArray:=⟨(List.replicate n (0:UInt8)).toArray⟩
end Dr
namespace Dr
open St (IsS)
theorem pick_any (B g c:Nat) (a:Option Addr) (len cap:Nat) (t:TypeId) (l:List ByteArray) (w:World) (hl:len<=1048576) (hs:Src w B a len cap) (hx:IsS w g t l) (hg:g≠B) (h0:0<l.length) (hm:l.length<=100) :
  Calls prog 61 #[.pointer (some ⟨B,0,none⟩),.slice (some ⟨g,0,none⟩) l.length c] w fun e w'=>∃ s,s∈l/\e=.returned (.string s)/\Src w' B a len cap/\Only B w w':=by
 have HX:=hideD hx;have HM:=hideD (fun (j:Nat) (hj:j<l.length)=>List.getElem_mem hj);clear hx;obtain⟨n,hln⟩:∃ n,n=l.length:=⟨_,rfl⟩;have HLN:=hideD hln;rw[<-hln]at h0 hm ⊢;clear hln;go_enter func61,ntmps61
 go_wp2_with fail
 refine(n_any B a len cap n _ hl (by omega) hs).mono ?_;rintro e w2 ⟨r,rfl,q0,q1,hs2,ho2⟩;obtain⟨i,rfl⟩:=Int.eq_ofNat_of_zero_le q0
 have hin:i<n:=by omega
 have hil:i<l.length:=by rw[<-HLN.o];exact hin
 have hce:w2.cell? ⟨g,i,none⟩=some (.string l[i]):=by
  have h1:IsS w2 g t l:=by
   unfold IsS;rw[ho2.2.2.2.2 g hg];exact HX.o
  exact h1.cell hil
 have HMI:=hideD (HM.o i hil);generalize l[i]=s at hce HMI;have HS2:=hideD hs2;have HO2:=hideD ho2;clear hs2 ho2 q0 q1 hs
 go_wp2_with fail
 go_ret;exact⟨s,HMI.o,rfl,HS2.o,HO2.o⟩
end Dr
namespace Dr
open St (IsS)
def six5:List ByteArray:=[⟨#[]⟩,⟨#[98,97,110,97,110,97]⟩,⟨#[97,98,97,98]⟩,⟨#[97,97,97,97,97,97,97,97,97,97,97,97,97,97,97,97]⟩,⟨#[97,98,114,97,99,97,100,97,98,114,97,32,97,98,114,97,99,97,100,97,98,114,97]⟩,⟨#[97,98]⟩]
def five5:List ByteArray:=[⟨#[97]⟩,⟨#[98]⟩,⟨#[97,98]⟩,⟨#[116,104,101,32]⟩,⟨#[97,97,97,97]⟩]
theorem six5_is (W:World) (t:TypeId):IsS (W.alloc (.cells #[.string ⟨#[]⟩,.string ⟨#[98,97,110,97,110,97]⟩,.string ⟨#[97,98,97,98]⟩,.string ⟨#[97,97,97,97,97,97,97,97,97,97,97,97,97,97,97,97]⟩,.string ⟨#[97,98,114,97,99,97,100,97,98,114,97,32,97,98,114,97,99,97,100,97,98,114,97]⟩,.string ⟨#[97,98]⟩] t)) W.heap.size t six5:=heap_alloc_last W _
theorem five5_is (W:World) (t:TypeId):IsS (W.alloc (.cells #[.string ⟨#[97]⟩,.string ⟨#[98]⟩,.string ⟨#[97,98]⟩,.string ⟨#[116,104,101,32]⟩,.string ⟨#[97,97,97,97]⟩] t)) W.heap.size t five5:=heap_alloc_last W _
theorem six5_le (s:ByteArray) (h:s∈six5):s.size<=23:=by
 simp only[six5,List.mem_cons,List.not_mem_nil,or_false]at h
 rcases h with rfl|rfl|rfl|rfl|rfl|rfl<;>decide
theorem five5_le (s:ByteArray) (h:s∈five5):s.size<=4:=by
 simp only[five5,List.mem_cons,List.not_mem_nil,or_false]at h
 rcases h with rfl|rfl|rfl|rfl|rfl<;>decide
theorem text5_any (B:Nat) (a:Option Addr) (len cap:Nat) (w:World) (hl:len<=1048576) (hs:Src w B a len cap) :
  Calls prog 35 #[.pointer (some ⟨B,0,none⟩)] w fun e w'=>∃ s:ByteArray,s.size<=32/\e=.returned (.string s)/\Src w' B a len cap/\Aft B w w':=by
 have hB:=hs.lt;have HS:=hideD hs;clear hs;go_enter func35,ntmps35
 go_wp2_with fail
 refine(n_any B a len cap 5 _ hl (by omega) HS.o).mono ?_;rintro e w1 ⟨r,rfl,q0,q1,hs1,ho1⟩;have HS1:=hideD hs1;have HO1:=hideD ho1;clear hs1 ho1;by_cases h0:r=0
 ·subst h0
  go_wp2_with fail
  refine(n_any B a len cap 12 _ hl (by omega) HS1.o).mono ?_;rintro e w2 ⟨r2,rfl,p0,p1,hs2,ho2⟩;obtain⟨m,rfl⟩:=Int.eq_ofNat_of_zero_le p0;have HB2:=hideD (bytes_any B a len cap m w2 hl (by omega) hs2);have HA2:=hideD ((HO1.o.trans ho2).aft)
  have hm32:m<=32:=by omega
  clear hs2 ho2 p0 p1
  go_wp2_with fail
  refine HB2.o.mono ?_;rintro e w3 ⟨l,hlen,rfl,hs3,ha3⟩;have HX:Hid (∃ s:ByteArray,s.size<=32/\Ending.returned (.string ⟨l.toArray⟩)=.returned (.string s)/\Src w3 B a len cap/\Aft B w w3):=⟨⟨l.toArray⟩,by rw[show (⟨l.toArray⟩:ByteArray).size=l.length from by simp[ByteArray.size],hlen];exact hm32,rfl,hs3,HA2.o.trans ha3⟩;clear hs3 ha3 hlen
  go_wp2_with fail
  go_ret;exact HX.o
 ·by_cases h1:r=1
  ·subst h1
   have HP:=hideD (fun W (h:Src W B a len cap)=>pick_any B W.heap.size 6 a len cap 9 six5 (W.alloc (.cells #[.string ⟨#[]⟩,.string ⟨#[98,97,110,97,110,97]⟩,.string ⟨#[97,98,97,98]⟩,.string ⟨#[97,97,97,97,97,97,97,97,97,97,97,97,97,97,97,97]⟩,.string ⟨#[97,98,114,97,99,97,100,97,98,114,97,32,97,98,114,97,99,97,100,97,98,114,97]⟩,.string ⟨#[97,98]⟩] 9)) hl (h.below ((Below.refl _ _).alloc nl _)) (six5_is W _) (by have:=h.lt;omega) (by decide) (by decide))
   go_wp2_with fail
   refine(HP.o w1 HS1.o).mono ?_;rintro e w2 ⟨s,hm,rfl,hs2,ho2⟩;have HX:Hid (∃ s':ByteArray,s'.size<=32/\Ending.returned (.string s)=.returned (.string s')/\Src w2 B a len cap/\Aft B w w2):=⟨s,Nat.le_trans (six5_le s hm) (by decide),rfl,hs2,(HO1.o.aft.trans (aft_below ((Below.refl _ _).alloc nl _))).trans ho2.aft⟩;clear hs2 ho2 hm
   go_wp2_with fail
   go_ret;exact HX.o
  ·have e0:(r==0)=false:=beq_eq_false_iff_ne.2 h0
   have e1:(r==1)=false:=beq_eq_false_iff_ne.2 h1;have HP:=hideD (fun W (h:Src W B a len cap)=>pick_any B W.heap.size 5 a len cap 9 five5 (W.alloc (.cells #[.string ⟨#[97]⟩,.string ⟨#[98]⟩,.string ⟨#[97,98]⟩,.string ⟨#[116,104,101,32]⟩,.string ⟨#[97,97,97,97]⟩] 9)) hl (h.below ((Below.refl _ _).alloc nl _)) (five5_is W _) (by have:=h.lt;omega) (by decide) (by decide));clear h0 h1
   go_wp2_with fail
   refine(n_any B a len cap 8 _ hl (by omega) HS1.o).mono ?_;rintro e w2 ⟨r2,rfl,p0,p1,hs2,ho2⟩;obtain⟨m,rfl⟩:=Int.eq_ofNat_of_zero_le p0;have HS2:=hideD hs2;have HA2:=hideD ((HO1.o.trans ho2).aft)
   have hm7:m<=7:=by omega
   clear hs2 ho2 p0 p1
   go_wp2_with fail
   go_loopw [4,3] (fun i u wr=>∃ (k:Nat) (s:ByteArray),i=.int .i64 k/\k<=7/\u=.string s/\s.size+4*k<=28/\Src wr B a len cap/\Aft B w wr) (fun i _ _=>(intOf i).toNat)
   case atStart=>exact⟨m,⟨#[]⟩,rfl,hm7,rfl,by simp[ByteArray.size];omega,HS2.o,HA2.o⟩
   case round =>
    obtain⟨k,s,rfl,hk,rfl,hsz,hs3,ha3⟩:=hrel;have HS3:=hideD hs3;have HA3:=hideD ha3;clear hs3 ha3;by_cases hlt:0<k
    ·obtain⟨kp,hkp⟩:∃ kp,k=kp+1:=⟨k-1,by omega⟩
     have ek:(k:Int)-1=(kp:Int):=by omega
     have HK:=hideD hkp;have hkz:(0:Int)<(k:Int):=(by omega);clear hkp;(go_wp2_with fail);refine(HP.o wr HS3.o).mono ?_;rintro e w4 ⟨s4,hm4,rfl,hs4,ho4⟩;have HS4:=hideD hs4;have HA4:=hideD ((HA3.o.trans (aft_below ((Below.refl _ _).alloc nl _))).trans ho4.aft)
     have HL4:Hid ((s++s4).size+4*kp<=28):=by
      unfold Hid;rw[ByteArray.size_append]
      have:=five5_le s4 hm4
      have:=HK.o
      omega
     have hs4z:=five5_le s4 hm4;clear hs4 ho4 hm4;(go_wp2_with fail)
     go_roundw
     case rel=>exact⟨kp,s++s4,by go_num,by have:=HK.o;omega,rfl,HL4.o,HS4.o,HA4.o⟩
     case measure=>have:=HK.o;simp[intOf];omega
    ·obtain rfl:k=0:=by omega
     have HX:Hid (∃ s':ByteArray,s'.size<=32/\Ending.returned (.string s)=.returned (.string s')/\Src wr B a len cap/\Aft B w wr):=⟨s,by omega,rfl,HS3.o,HA3.o⟩;(go_wp2_with fail);go_ret;exact HX.o
end Dr
namespace Dr
open Sh (made_row strF strF_size)
end Dr
namespace Dr
open In (OwnI one_newI one_cellI)
open In.Tryz (infoI2)
open Fr (frontOf_spec frontR frontR_len)
def vals4 (j:Nat):Int:=if j=0 then -1 else if j=1 then 0 else if j=2 then 255 else 256
end Dr
end Go.Proofs.YtbdcffjcogglbaaGreatDoor
