import Derived.Test.YtbdcffjcogglbaaGreatDoorOz35
import Derived.Test.YtbdcffjcogglbaaGreatDoorOz36
set_option maxRecDepth 100000
set_option maxHeartbeats 8000000
namespace Go.Proofs.YtbdcffjcogglbaaGreatDoor
open Go.RowKit
open Go.Proofs.Tryz
namespace Pk
open In (Ints IsI OwnI made_ints)
open Hf (up up_length up_at up_set incs incs_next incs_length)
open Bi (above putR packR putL)
open Go.Proofs.YtbdcffjcogglbaaGreatDoor.So (bwtT bwtA l05Bwt_spec)
open Fr (frontR frontOf_spec frontR_len)
open Ze (zerosR zerosOf_spec)
open Nu (putS)
open Se (sealV seal_spec)
theorem bytes_ext {a b:ByteArray} (h:a.data.toList=b.data.toList):a=b:=ByteArray.ext (by rw[<-Array.toArray_toList (xs:=a.data),h,Array.toArray_toList])
def tabB (d:List Nat):Nat->ByteArray
 |0=>⟨#[]⟩
 |k+1=>if 0<d.getD k 0 then tabB d k++putS (k:Int)++putS ((d.getD k 0:Nat):Int) else tabB d k
theorem numsL_append (l m:List Int):numsL (l++m)=numsL l++numsL m:=by
 unfold numsL;rw[List.flatMap_append]
theorem tabB_list (d:List Nat):∀ k,(tabB d k).data.toList=numsL (rowT d k)
 |0=>rfl
 |k+1=>by
  have ih:=tabB_list d k;rw[tabB,rowT]
  split
  ·rw[numsL_append,<-ih]
   unfold numsL;simp[ByteArray.data_append]
  ·exact ih
theorem tabB_size (d:List Nat) (k:Nat):(tabB d k).size<=20*k:=by
 have h1:(tabB d k).size=(tabB d k).data.toList.length:=by simp
 rw[h1,tabB_list];have h2:=numsL_le (rowT d k);have h3:=rowT_length d k;omega
theorem short_eq (b:ByteArray):⟨#[1]⟩++(putS (b.size:Int)++putS ((bwtA b:Nat):Int)++putS ((symS b).length:Int)++putS ((above (up (lenS b)):Nat):Int))++tabB (lenS b) 257++bitsS b=shortV b:=by
 refine bytes_ext ?_
 show _=(shortL b).toArray.toList
 unfold shortL headS;rw[<-tabB_list];unfold numsL;simp[ByteArray.data_append]
theorem plain_eq (b:ByteArray):⟨#[0]⟩++b=plainV b:=by
 refine bytes_ext ?_
 show _=(0 :: b.data.toList).toArray.toList
 simp[ByteArray.data_append]
theorem long_spec (b:ByteArray) (w:World) (hb:b.size<=48) :
  Calls prog 69 #[.string b] w fun e w'=>e=.returned (.string (shortV b))/\Below w.heap.size w w':=by
 obtain⟨i0,hi,hz0,hz1,hz2⟩:=info_parts In.Tryz.infoI2;obtain⟨hf1,hf2,_,_⟩:=lenS_facts b;have HSM:=hideP (symS_mem b);have hsl:=symS_len b;have hba:=bwtA_le b hb;have hab:=Bi.above_le (up (lenS b));rw[up_length,hf1]at hab;have C1:Hid (∀ W,Calls prog 96 #[.string b] W fun e w'=>e=.returned (.tuple #[.string (bwtT b),.int .i64 (bwtA b:Nat)])/\Below W.heap.size W w'):=fun W=>l05Bwt_spec b W hb
 have C2:Hid (∀ W,Calls prog 98 #[.string (bwtT b)] W fun e w'=>∃ v,e=.returned v/\OwnI w' W.heap.size v (frontR (bwtT b).data.toList)/\Below W.heap.size W w'):=fun W=>frontOf_spec (bwtT b) W (by
  have:(bwtT b).size<=48:=by
   unfold bwtT;rw[if_pos hb,Sh.strF_size];exact hb
  omega)
 have C3:Hid (∀ W base v,OwnI W base v (frontR (bwtT b).data.toList)->Calls prog 97 #[v] W fun e w'=>∃ v,e=.returned v/\OwnI w' W.heap.size v (symS b)/\Below W.heap.size W w'):=fun W base v h=>by
  obtain⟨x,c,rfl,_,hi⟩:=h.ints;exact zerosOf_spec _ x c W.heap.size W hi nl (by have:=frontR_len (bwtT b).data.toList;omega)
 obtain⟨n,hn⟩:∃ n,n=(symS b).length:=⟨_,rfl⟩;have HN:=hideP hn;have HCL:=hideP (counts_le (symS b) HSM.o)
 have HNL:Hid ((Hf.nats (symS b)).length=n):=by unfold Hid Hf.nats;rw[List.length_map,hn]
 have C5:Hid (∀ W g,IsI W g 2 (up (countsN (symS b)))->Calls prog 99 #[.slice (some ⟨g,0,none⟩) 257 257] W fun e w'=>∃ a c',e=.returned (.slice a 257 c')/\Ints w' w'.heap.size a (up (lenS b))/\Below W.heap.size W w'):=fun W g h=>by
  refine(Hf.ofS_any (some ⟨g,0,none⟩) 257 257 (countsN (symS b)) W (h.ints h.lt) (countsN_length _) (by decide) (by decide) (fun x hx=>?_)).mono ?_
  ·obtain⟨j,hj,rfl⟩:=List.getElem_of_mem hx
   have h1:=HCL.o (Hf.nats (symS b)).length j;rw[List.take_length]at h1
   have e:(countsN (symS b)).getD j 0=(countsN (symS b))[j]:=by rw[List.getD_eq_getElem?_getD,List.getElem?_eq_getElem hj];rfl
   have h3:(countsN (symS b)).getD j 0<=(symS b).length:=h1;omega
  ·rintro e w' ⟨v,rfl,ho,hb⟩
   obtain⟨a,c',rfl,_,hi⟩:=ho.ints;refine⟨a,c',?_,hi,hb⟩;rw[up_length]
   show Ending.returned (.slice a (lenS b).length c')=_
   rw[hf1]
 have C7:Hid (∀ W x c y d,0<above (up (lenS b))->Ints W W.heap.size x (up (lenS b))->Ints W W.heap.size y (symS b)->Calls prog 101 #[.slice x 257 c,.slice y n d] W fun e w'=>e=.returned (.string (putR (up (lenS b)) (symS b)))/\Below W.heap.size W w'):=fun W x c y d h0 h1 h2=>by
  have:=Bi.l04Put_any (up (lenS b)) (symS b) x y c d W h1 h2 (by omega) (lenS_whole b h0) (symS_ok b)
  rw[up_length,hf1,<-hn,<-bits_some b h0]at this;exact this
 have C8:Hid (∀ W,Calls prog 102 #[.string (putR (up (lenS b)) (symS b))] W fun e w'=>e=.returned (.string (bitsS b))/\Below W.heap.size W w'):=fun W=>Bi.pack_spec _ W (by have:=bits_size b;omega);have HBN:=hideP (bits_none b);have CP:Hid (∀ (x:Int) W,0<=x->x<=1000000->Calls prog 100 #[.int .i64 x] W fun e w'=>e=.returned (.string (putS x))/\Below W.heap.size W w'):=fun x W h1 h2=>Nu.put_spec x W (by omega) (by omega);have HPS:=hideP putS_size;have HTS:=hideP (tabB_size (lenS b));have HBS:=hideP (bitsS_size b);have HEQ:=hideP (short_eq b);rw[<-hn]at hsl HEQ;have HD12:=hideP hf2;have HDL:=hideP hf1
 have HZ:Hid (up (incs (Hf.zeros 257) ((Hf.nats (symS b)).take 0))=List.replicate 257 0):=by
  unfold Hid;rw[List.take_zero]
  show up (Hf.zeros 257)=_
  unfold up Hf.zeros;rw[List.map_replicate];rfl
 have HCN:Hid (incs (Hf.zeros 257) ((Hf.nats (symS b)).take n)=countsN (symS b)):=by
  unfold Hid;rw[List.take_of_length_le (by rw[HNL.o];exact nl)];rfl
 have HNXT:=hideP (fun j (h:j<n)=>incs_next (Hf.zeros 257) (Hf.nats (symS b)) j (by rw[HNL.o];exact h));have HNAT:=hideP (fun j (h:j<(symS b).length)=>nats_at (symS b) j h);have HABV:=hideP (fun k (h:k<(up (lenS b)).length)=>Bi.above_more (l:=up (lenS b)) h);have HAB0:Hid (above ((up (lenS b)).take 0)=0):=rfl
 have HABA:Hid (above ((up (lenS b)).take 257)=above (up (lenS b))):=by
  unfold Hid;rw[List.take_of_length_le (by rw[up_length,hf1];exact nl)]
 clear hn hf1 hf2;generalize shortV b=R at HEQ ⊢;generalize bitsS b=T3 at C8 HEQ HBS;generalize putR (up (lenS b)) (symS b)=T0 at C7 C8 HBN;generalize above (up (lenS b))=kV at C7 HEQ HBN HABA hab;generalize bwtA b=kA at C1 HEQ hba;generalize bwtT b=kT at C1 C2 C3;go_enter func69,ntmps69
 go_wp2_with fail
 refine(C1.o _).mono ?_;rintro e w1 ⟨rfl,hb1⟩;have B1:=hideP hb1;clear hb1
 go_wp2_with fail
 refine(C2.o _).mono ?_;rintro e w3 ⟨v3,rfl,ho3,hb3⟩;have B3:=hideP (low_keep B1.o hb3);have O3:=hideP ho3;clear ho3 hb3 B1
 go_wp2_with fail
 refine(C3.o _ _ _ O3.o).mono ?_;rintro e w4 ⟨v4,rfl,ho4,hb4⟩;have B4:=hideP (low_keep B3.o hb4);obtain⟨ay,cy,hv4,_,hi4⟩:=ho4.ints;rw[<-HN.o]at hv4;subst hv4;have Y4:=hideP hi4;have hz4:=B4.o.size;clear ho4 hb4 B3 O3 hi4 C1 C2 C3
 go_wp2_with (at_make;refine wpList_make_full _ rfl (.const (.int .i64 257)) (.const (.int .i64 257)) 69 rfl w4.heap.size 2 i0 (.int .i64 0) 1 underlying69 hi hz0 hz1 .i64 .i64 _ _ 257 rfl rfl (by omega) (by omega) (by rw[hz2];omega) (by unfold maxLen;omega) nl ?_;intro w5 hown hgrow;have HI1:=hideP (made_ints hown);have HB1:=hideP ((Below.refl w4.heap.size w4).grown hgrow nl (by simp));clear hown hgrow)
 go_loopw [7] (fun iv wr=>∃ j:Nat,iv=.int .i64 j/\j<=n/\IsI wr w4.heap.size 2 (up (incs (Hf.zeros 257) ((Hf.nats (symS b)).take j)))/\Below w4.heap.size w4 wr) (fun iv _=>n-(intOf iv).toNat)
 case atStart=>exact⟨0,rfl,Nat.zero_le _,by rw[HZ.o];exact HI1.o,HB1.o⟩
 case round =>
  obtain⟨j,rfl,hj,hij,hbw⟩:=hrel;have IJ:=hideP hij;have BW:=hideP hbw;clear hij hbw;by_cases hlt:j<n
  ·have hjl:j<(symS b).length:=by rw[<-HN.o];exact hlt
   obtain⟨bb,off,rfl,hbb,hcl⟩:=(Y4.o.below BW.o).some (by omega);have ci:=hcl j hjl;have hx:=HSM.o (symS b)[j] (List.getElem_mem hjl);have HNX:=hideP (HNXT.o j hlt);rw[HNAT.o j hjl]at HNX;generalize (symS b)[j]=x at ci hx HNX;obtain⟨y,rfl⟩:∃ y:Nat,x=y:=⟨x.toNat,by omega⟩;rw[Int.toNat_natCast]at HNX
   have hlen:y<(incs (Hf.zeros 257) ((Hf.nats (symS b)).take j)).length:=by rw[incs_length,zeros_length];omega
   have cl0:wr.cell? ⟨w4.heap.size,y,none⟩=some (.int .i64 (((incs (Hf.zeros 257) ((Hf.nats (symS b)).take j)).getD y 0:Nat):Int)):=by
    rw[IJ.o.cell (j:=y) (by rw[up_length];exact hlen),up_at _ _ hlen]
   have zl0:=IJ.o.frozen y;have hdb:=HCL.o j y;obtain⟨dv,hdv⟩:∃ dv,dv=(incs (Hf.zeros 257) ((Hf.nats (symS b)).take j)).getD y 0:=⟨_,rfl⟩;have HDV:=hideP hdv;rw[<-hdv]at cl0 hdb
   have hdv2:dv<=400:=by have:=HN.o;omega
   have hy:(y:Int)<257:=by omega
   have hjn:(j:Int)<n:=by omega
   clear hdv hcl hjl hlen hdb
   go_wp2_with fail
   go_region
   all_goals (
    (go_wp2_with fail)
    go_roundw
    case rel =>
     refine⟨j+1,by go_num,by omega,?_,(BW.o.setCell (by simp) _).drew⟩
     have:=IJ.o.set y ((dv:Int)+1)
     rw[HNX.o,<-HDV.o,<-up_set];exact this
    case measure=>simp[intOf];omega)
  ·obtain rfl:j=n:=by omega
   have IE:Hid (IsI wr w4.heap.size 2 (up (countsN (symS b)))):=by
    have:=IJ.o
    rw[HCN.o]at this;exact this
   have YE:=hideP (ints_keep Y4.o BW.o);have BE:=hideP (low_keep B4.o BW.o);generalize w4.heap.size=gc at IE ⊢;clear IJ BW Y4 B4 HI1 HB1 HNXT HNAT HCL HZ HCN
   go_wp2_with fail
   refine(C5.o _ _ IE.o).mono ?_;rintro e w6 ⟨az,cz,rfl,hi6,hb6⟩;have B6:=hideP (low_keep BE.o hb6);have Y6:=hideP (ints_keep YE.o hb6);have Z6:=hideP hi6;clear hi6 hb6 IE YE BE
   go_wp2_with fail
   go_loopw [11,9,10] (fun iv tv mv wr=>∃ k:Nat,iv=.int .i64 k/\k<=257/\tv=.string (tabB (lenS b) k)/\mv=.int .i64 (above ((up (lenS b)).take k):Nat)/\Below w6.heap.size w6 wr) (fun iv _ _ _=>257-(intOf iv).toNat)
   case atStart=>exact⟨0,rfl,Nat.zero_le _,rfl,rfl,Below.refl _ _⟩
   case round =>
    obtain⟨k,rfl,hk,rfl,rfl,hbw⟩:=hrel;have BW:=hideP hbw;clear hbw;by_cases hlt2:k<257
    ·have hkd:k<(lenS b).length:=by rw[HDL.o];exact hlt2
     obtain⟨bb,off,rfl,hbb,hcl⟩:=(Z6.o.below BW.o).some (by rw[up_length];omega);have ci:=Hf.up_get hcl k hkd;have hg:(lenS b).getD k 0=(lenS b)[k]:=(by rw[List.getD_eq_getElem?_getD,List.getElem?_eq_getElem hkd];rfl);have hx:=HD12.o k;have HNX:Hid (tabB (lenS b) (k+1)=if 0<(lenS b).getD k 0 then tabB (lenS b) k++putS (k:Int)++putS (((lenS b).getD k 0:Nat):Int) else tabB (lenS b) k):=rfl;have HAX:=hideP (HABV.o k (by rw[up_length];exact hkd));rw[up_at _ _ hkd]at HAX;have hts:=HTS.o k
     have hac:above ((up (lenS b)).take k)<=257:=by
      have:=Bi.above_le ((up (lenS b)).take k)
      rw[List.length_take]at this;omega
     have HCI:=hideP (fun (W:World) (h:Below wr.heap.size wr W)=>(h.cell (p:=⟨bb,off+k,none⟩) (show bb<wr.heap.size by have:=BW.o.size;omega)).trans ci);rw[<-hg]at ci HCI;generalize (lenS b).getD k 0=x at ci hx HNX HAX HCI hg;generalize tabB (lenS b) k=T at HNX hts ⊢;generalize above ((up (lenS b)).take k)=m at HAX hac ⊢;clear hg hcl hkd;by_cases h0:0<x
     ·have h0':(0:Int)<x:=by omega
      rw[if_pos h0]at HNX;rw[if_pos h0']at HAX;have p1:=HPS.o (k:Int);have p2:=HPS.o (x:Int);have HP1:=hideP (fun W=>CP.o (k:Int) W (by omega) (by omega));have HP2:=hideP (fun W=>CP.o (x:Int) W (by omega) (by omega));generalize putS (k:Int)=P1 at HP1 HNX p1;generalize putS (x:Int)=P2 at HP2 HNX p2;have n1:¬9223372036854775807<T.size+P1.size:=(by omega);have n2:¬9223372036854775807<T.size+P1.size+P2.size:=(by omega);have hkk:(k:Int)<257:=(by omega);have gc:=fun d os=>cell_regrown (w:=wr) ci d os;have mixed:=So.mixed;(go_wp2_with fail);clear ci;refine wp_region_quiet_below (by assumption) (by kernel_rfl) ?_
      repeat (quiet_step (first|(go_at_call_of 100 (Value.int IntKind.i64 (k:Int));exact Calls.regrown_of (HP1.o _))|(go_at_call_of 100 (Value.int IntKind.i64 (x:Int));exact Calls.regrown_of (HP2.o _))))
      refine wpQuiet_nil ?_;intro _ hw';obtain⟨⟨dq,osq⟩,hw''⟩:=hw';subst hw'';have KQ:=hideP (below_regrown wr dq osq);generalize Go.Sort.grow (redrawn wr dq) osq=w8 at KQ ⊢;clear gc;(go_wp2_with fail)
      go_roundw
      case rel=>exact⟨k+1,by go_num,by omega,by rw[HNX.o],by rw[HAX.o];go_num,low_keep BW.o KQ.o⟩
      case measure=>simp[intOf];omega
     ·have h0':x=0:=by omega
      subst h0';rw[if_neg h0]at HNX;rw[if_neg (by decide)]at HAX;(go_wp2_with fail)
      go_roundw
      case rel=>exact⟨k+1,by go_num,by omega,by rw[HNX.o],by rw[HAX.o];rfl,BW.o⟩
      case measure=>simp[intOf];omega
    ·obtain rfl:k=257:=by omega
     have Y7:=hideP (ints_keep Y6.o BW.o);have Z7:=hideP (ints_keep Z6.o BW.o);have B7:=hideP (low_keep B6.o BW.o);have hts:=HTS.o 257;rw[HABA.o];clear Y6 Z6 B6 BW HABV HAB0 HABA HTS HD12;generalize tabB (lenS b) 257=T at HEQ hts ⊢;have p1:=HPS.o (b.size:Int);have p2:=HPS.o (kA:Int);have p3:=HPS.o (j:Int);have p4:=HPS.o (kV:Int);have HP1:=hideP (fun W=>CP.o (b.size:Int) W (by omega) (by omega));have HP2:=hideP (fun W=>CP.o (kA:Int) W (by omega) (by omega));have HP3:=hideP (fun W=>CP.o (j:Int) W (by omega) (by omega));have HP4:=hideP (fun W=>CP.o (kV:Int) W (by omega) (by omega));generalize putS (b.size:Int)=P1 at HP1 HEQ p1;generalize putS (kA:Int)=P2 at HP2 HEQ p2;generalize putS (j:Int)=P3 at HP3 HEQ p3;generalize putS (kV:Int)=P4 at HP4 HEQ p4;have q1:(P1++P2).size<=20:=(by rw[ByteArray.size_append];omega);have q2:(P1++P2++P3).size<=30:=(by rw[ByteArray.size_append];omega);have q3:(P1++P2++P3++P4).size<=40:=(by rw[ByteArray.size_append];omega);have q4:((⟨#[1]⟩:ByteArray)++(P1++P2++P3++P4)).size<=41:=(by rw[ByteArray.size_append];have:(⟨#[1]⟩:ByteArray).size=1:=rfl;omega);have q5:((⟨#[1]⟩:ByteArray)++(P1++P2++P3++P4)++T).size<=5181:=(by rw[ByteArray.size_append];omega);have hbs:=HBS.o;have r1:P1.size+P2.size<=9223372036854775807:=(by omega);have r2:(P1++P2).size+P3.size<=9223372036854775807:=(by omega);have r3:(P1++P2++P3).size+P4.size<=9223372036854775807:=(by omega);have r4:(⟨#[1]⟩:ByteArray).size+(P1++P2++P3++P4).size<=9223372036854775807:=(by have:(⟨#[1]⟩:ByteArray).size=1:=rfl;omega);have r5:((⟨#[1]⟩:ByteArray)++(P1++P2++P3++P4)).size+T.size<=9223372036854775807:=(by omega);have r6:((⟨#[1]⟩:ByteArray)++(P1++P2++P3++P4)++T).size+T3.size<=9223372036854775807:=(by omega);(go_wp2_with fail);refine(HP1.o _).mono ?_;rintro e w91 ⟨rfl,hb91⟩;have B91:=hideP (low_keep B7.o hb91);have Y8:=hideP (ints_keep Y7.o hb91);have Z8:=hideP (ints_keep Z7.o hb91);clear hb91 Y7 Z7 B7;(go_wp2_with fail);refine(HP2.o _).mono ?_;rintro e w92 ⟨rfl,hb92⟩;have B92:=hideP (low_keep B91.o hb92);have Y9:=hideP (ints_keep Y8.o hb92);have Z9:=hideP (ints_keep Z8.o hb92);clear hb92 Y8 Z8 B91;(go_wp2_with fail);refine(HP3.o _).mono ?_;rintro e w93 ⟨rfl,hb93⟩;have B93:=hideP (low_keep B92.o hb93);have Y10:=hideP (ints_keep Y9.o hb93);have Z10:=hideP (ints_keep Z9.o hb93);clear hb93 Y9 Z9 B92;(go_wp2_with fail);refine(HP4.o _).mono ?_;rintro e w94 ⟨rfl,hb94⟩;have B94:=hideP (low_keep B93.o hb94);have Y11:=hideP (ints_keep Y10.o hb94);have Z11:=hideP (ints_keep Z10.o hb94);clear hb94 Y10 Z10 B93;by_cases hV:0<kV
     ·have hV':(0:Int)<kV:=by omega
      (go_wp2_with fail);refine(C7.o _ _ _ _ _ hV Z11.o Y11.o).mono ?_;rintro e w95 ⟨rfl,hb95⟩;have B95:=hideP (low_keep B94.o hb95);clear hb95;(go_wp2_with fail);refine(C8.o _).mono ?_;rintro e w96 ⟨rfl,hb96⟩;have B96:=hideP (low_keep B95.o hb96);clear hb96;(go_wp2_with fail);go_ret;exact⟨by rw[<-HEQ.o];rfl,B96.o⟩
     ·obtain rfl:kV=0:=by omega
      obtain rfl:=HBN.o rfl;have B95:=hideP B94.o;(go_wp2_with fail);refine(C8.o _).mono ?_;rintro e w96 ⟨rfl,hb96⟩;have B96:=hideP (low_keep B95.o hb96);clear hb96;(go_wp2_with fail);go_ret;exact⟨by rw[<-HEQ.o];rfl,B96.o⟩
theorem pack_l06 (b:ByteArray) (w:World) (hb:b.size<=48) :
  Calls prog 44 #[.string b] w fun e w'=>e=.returned (.string (packB b))/\Below w.heap.size w w':=by
 have HR:Hid (packB b=sealV (innerV b)):=if_neg (by omega);have HL:=hideP (fun W=>long_spec b W hb)
 have hss:(shortV b).size<=20000:=by
  have:=shortL_le b
  show (shortL b).toArray.size<=20000
  rw[List.size_toArray];exact this
 have HSE:=hideP (fun (t:ByteArray) (W:World) (h:t.size<=20000)=>seal_spec t W (by unfold maxLen;omega));have HPE:=hideP (plain_eq b);have hps:=plainV_size b;have HIN:Hid (innerV b=if (shortV b).size<b.size+1 then shortV b else plainV b):=rfl;rw[HR.o,HIN.o];clear HR HIN;generalize shortV b=S at HL hss ⊢;generalize plainV b=P at HPE hps ⊢;by_cases hlt:S.size<b.size+1
 ·have hlt':¬(b.size:Int)+1<=(S.size:Int):=by omega
  have hlt2:decide ((b.size:Int)+1<=(S.size:Int))=false:=decide_eq_false hlt';rw[if_pos hlt];have HSE1:=hideP (fun W=>HSE.o S W hss);generalize sealV S=R at HSE1 ⊢;go_enter func44,ntmps44
  go_wp2_with fail
  refine(HL.o _).mono ?_;rintro e w1 ⟨rfl,hb1⟩;have B1:=hideP hb1;clear hb1
  go_wp2_with fail
  refine(HSE1.o _).mono ?_;rintro e w2 ⟨rfl,hb2⟩;have B2:=hideP (low_keep B1.o hb2);clear hb2
  go_wp2_with fail
  go_ret;exact⟨rfl,B2.o⟩
 ·have hlt':(b.size:Int)+1<=(S.size:Int):=by omega
  rw[if_neg hlt];have HSE1:=hideP (fun W=>HSE.o P W (by omega));rw[<-HPE.o]at HSE1 ⊢
  have hz0:(⟨#[0]⟩:ByteArray).size+b.size<=9223372036854775807:=by have:(⟨#[0]⟩:ByteArray).size=1:=rfl;omega
  generalize sealV ((⟨#[0]⟩:ByteArray)++b)=R at HSE1 ⊢;clear HPE;go_enter func44,ntmps44
  go_wp2_with fail
  refine(HL.o _).mono ?_;rintro e w1 ⟨rfl,hb1⟩;have B1:=hideP hb1;clear hb1
  go_wp2_with fail
  refine(HSE1.o _).mono ?_;rintro e w2 ⟨rfl,hb2⟩;have B2:=hideP (low_keep B1.o hb2);clear hb2
  go_wp2_with fail
  go_ret;exact⟨rfl,B2.o⟩
end Pk
namespace Up
open Go.RowKit Go.Extern.Stop Go.Stop Go.Extern
theorem typeOfE (v:Value) (w:World):(ReflectliteType.typeOf #[.iface 264 v]).run prog w=.ok (.iface 182 (.agg #[.pointer (some ⟨4,264,none⟩)])) w:=by kernel_rfl
theorem methodCmp (h:Value) (w:World):(Go.method 396 182 (.agg #[h]) "Comparable").run prog w=.ok (241,.agg #[h]) w:=by kernel_rfl
def cmpF:Array Value->Sem Value:=ReflectliteType.method fun t=>do Rtype.noPackHeld "Comparable" t;pure (.bool (<-typeInfo t).comparable)
theorem cmpE (w:World):(cmpF #[.agg #[.pointer (some ⟨4,264,none⟩)]]).run prog w=.ok (.bool true) w:=by kernel_rfl
theorem infoE:(prog.info? 264).map (·.comparable)=some true:=by kernel_rfl
theorem infoS:(prog.info? 284).isSome=true:=by kernel_rfl
theorem eqE (a:Addr) (u:World):Sem.run prog (binOp BinOp.eql 85 (.iface 264 (.pointer (some a))) (.iface 264 (.pointer (some a)))) u=.ok (.bool true) u:=by
 cases h1:prog.info? 264 with
 |none=>have:=infoE;rw[h1]at this;cases this
 |some i =>
  cases h2:prog.info? 284 with
  |none=>have:=infoS;rw[h2]at this;cases this
  |some j =>
   have hc:i.comparable=true:=by have:=infoE;rw[h1]at this;simpa using this
   exact run_eql_iface_ptr_same u a underlying85 underlying264 h1 hc h2
theorem is_same (a:Addr) (w:World) :
  Calls prog 119 #[.iface 264 (.pointer (some a)),.iface 264 (.pointer (some a)),.bool true] w fun e w'=>e=.returned (.bool true)/\w'=w:=by
 have heq:=eqE a;go_enter func119,ntmps119
 go_wp2
 refine wp_loop_rounds 1 ?_;rw[rounds_succ]
 go_wp2
 go_ret;exact⟨rfl,rfl⟩
theorem is_self (a:Addr) (w:World) :
  Calls prog 83 #[.iface 264 (.pointer (some a)),.iface 264 (.pointer (some a))] w fun e w'=>e=.returned (.bool true)/\Below w.heap.size w w':=by
 have hG:=@run_callFunc_extern prog 118 _ ReflectliteType.typeOf func118 (by kernel_rfl) (by kernel_rfl) (by kernel_rfl) (by kernel_rfl);have hX:=@run_callFunc_extern prog 241 _ cmpF func241 (by kernel_rfl) (by kernel_rfl) (by kernel_rfl) (by kernel_rfl);have f1:=typeOfE;have f2:=methodCmp;have f3:=cmpE;go_enter func83,ntmps83
 go_wp2_with fail
 refine(is_same a _).mono ?_;rintro e w1 ⟨rfl,hw⟩;subst w1
 go_wp2_with fail
 go_ret;exact⟨rfl,Below.refl _ _⟩
end Up
end Go.Proofs.YtbdcffjcogglbaaGreatDoor
