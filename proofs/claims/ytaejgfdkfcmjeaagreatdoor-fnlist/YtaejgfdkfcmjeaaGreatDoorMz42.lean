import Derived.ProofKit
import Derived.OpenShut
import Derived.ShutString
import Derived.ChangeOld
import Derived.ChangeSame
import Derived.Lib.SmallJoins
import Derived.Lib.QuietBelow
import Derived.Test.YtaejgfdkfcmjeaaGreatDoorMz39
import Derived.Test.YtaejgfdkfcmjeaaGreatDoorMz35
set_option maxRecDepth 100000
set_option maxHeartbeats 8000000
namespace Go.Proofs.YtaejgfdkfcmjeaaGreatDoor
open Go.RowKit
open Go.Proofs.Tryz
namespace Kp
open Ls (lV cells3)
end Kp
namespace Kp
open Go.RowKit Go.ChangeShapes Go.WideShapes Go.ChangeAt Go.Deep
end Kp
namespace Ls
open Pk (cat numsL join_any nums_any)
open St (Strs)
open In (Ints)
open Nu (putS putT put_spec text_spec text_impl putS_size)
def bytesA (z b:Int) (r:ByteArray):ByteArray:=putS z++putS b++putT r
def bytesL (z b:Int) (r:ByteArray):ByteArray:=if rightB z b r=true then bytesA z b r else ⟨#[]⟩
theorem mixed:prog.follows .mixedOrders=true:=by kernel_rfl
theorem bytes_extL {a b:ByteArray} (h:a.data.toList=b.data.toList):a=b:=ByteArray.ext (by rw[<-Array.toArray_toList (xs:=a.data),h,Array.toArray_toList])
theorem ints_twoL {W:World} {g:Nat} {a b:Int} {t:TypeId} (h:W.heap[g]? = some (.cells #[.int .i64 a,.int .i64 b] t (0,0))):Ints W W.heap.size (some ⟨g,0,none⟩) [a,b] :=
 .inr ⟨g,0,rfl,(Array.getElem?_eq_some_iff.1 h).1,fun j hj=>by
  rw[Nat.zero_add,cell_of_row W g j _ _ _ h]
  match j,hj with
  |0,_=>rfl
  |1,_=>rfl⟩
theorem strs_twoL {W:World} {g:Nat} {a b:ByteArray} {t:TypeId} (h:W.heap[g]? = some (.cells #[.string a,.string b] t (0,0))):Strs W W.heap.size (some ⟨g,0,none⟩) [a,b] :=
 .inr ⟨g,0,rfl,(Array.getElem?_eq_some_iff.1 h).1,fun j hj=>by
  rw[Nat.zero_add,cell_of_row W g j _ _ _ h]
  match j,hj with
  |0,_=>rfl
  |1,_=>rfl⟩
theorem cat_bytes (z b:Int) (r:ByteArray):(⟨(cat [⟨(numsL [z,b]).toArray⟩,putT r]).toArray⟩:ByteArray)=bytesA z b r:=by
 refine bytes_extL ?_;unfold cat numsL bytesA;simp
theorem putT_size (r:ByteArray) (h:r.size=32):(putT r).size<=42:=by
 unfold putT;rw[if_pos (by omega),ByteArray.size_append]
 have:=putS_size (r.size:Int)
 omega
theorem lm_alloc {w W:World} (h:Below w.heap.size w W) (o:Obj):Below w.heap.size w (W.alloc o):=h.alloc h.size o
theorem lm_drew {w W:World} (h:Below w.heap.size w W):Below w.heap.size w W.drew:=h.drew
theorem l07_spec (z b:Int) (r:ByteArray) (w:World) (hb:rightB z b r=true) :
  Calls prog 44 #[lV z b r] w fun e w'=>e=.returned (.string (bytesA z b r))/\Below w.heap.size w w':=by
 have h:=rightB_yes hb;have HP1:=hideL (fun W=>put_spec z W (by omega) (by omega));have HP2:=hideL (fun W=>put_spec b W (by omega) (by omega));have HP3:=hideL (fun W=>text_spec r W (by unfold maxLen;omega));have p1:=putS_size z;have p2:=putS_size b;have p3:=putT_size r h.2.2.2.2.1;unfold lV bytesA;clear h hb;generalize putS z=P1 at HP1 p1 ⊢;generalize putS b=P2 at HP2 p2 ⊢;generalize putT r=P3 at HP3 p3 ⊢
 have n1:¬9223372036854775807<P1.size+P2.size:=by omega
 have n2:¬9223372036854775807<P1.size+P2.size+P3.size:=by omega
 have HX:Hid ((w.alloc (.cells #[.int .i64 z,.int .i64 b,.string r] 26)).heap[w.heap.size]? = some (.cells #[.int .i64 z,.int .i64 b,.string r] 26 (0,0))):=heap_alloc_new w _;have HA:Hid (Below w.heap.size w (w.alloc (.cells #[.int .i64 z,.int .i64 b,.string r] 26))):=(Below.refl _ _).alloc nl _;have hmx:=mixed;go_enter func44,ntmps44
 go_wp2_with fail
 generalize hww:w.alloc (.cells #[.int .i64 z,.int .i64 b,.string r] 26)=wa at HA HX ⊢;clear hww;obtain⟨c0,c1,c2⟩:=cells3 HX.o;generalize w.heap.size=gx at c0 c1 c2 ⊢;have g0:=fun d os=>cell_regrown c0 d os;have g1:=fun d os=>cell_regrown c1 d os;have g2:=fun d os=>cell_regrown c2 d os;refine wp_region_quiet_below (by assumption) (by kernel_rfl) ?_
 repeat (quiet_step (first|(go_at_call_of 72 (Value.int IntKind.i64 z);exact Calls.regrown_of (HP1.o _))|(go_at_call_of 72 (Value.int IntKind.i64 b);exact Calls.regrown_of (HP2.o _))|(go_at_call 73;exact Calls.regrown_of (HP3.o _))))
 refine wpQuiet_nil ?_;intro _ hw';obtain⟨⟨dq,osq⟩,hw''⟩:=hw';subst hw'';have KQ:=hideL (below_regrown wa dq osq);generalize Go.Sort.grow (redrawn wa dq) osq=w8 at KQ ⊢;clear g0 g1 g2 c0 c1 c2
 go_wp2_with fail
 go_ret;exact⟨rfl,lowL HA.o KQ.o⟩
end Ls
namespace Ls
open Pk (cat numsL join_any nums_any numsL_le)
open St (Strs)
open In (Ints)
open Nu (putS putT put_spec text_spec text_impl putS_size)
theorem bytesL_no {z b:Int} {r:ByteArray} (h:rightB z b r=false):bytesL z b r=⟨#[]⟩:=by
 unfold bytesL;rw[if_neg (by rw[h];decide)]
theorem bytesL_yes {z b:Int} {r:ByteArray} (h:rightB z b r=true):bytesL z b r=bytesA z b r:=by
 unfold bytesL;rw[if_pos h]
theorem bytes_spec (z b:Int) (r:ByteArray) (w:World) :
  Calls prog 13 #[lV z b r] w fun e w'=>e=.returned (.string (bytesL z b r))/\Below w.heap.size w w':=by
 have HR:=hideL (fun W=>right_spec z b r W);have HX:Hid ((w.alloc (.cells #[.int .i64 z,.int .i64 b,.string r] 26)).heap[w.heap.size]? = some (.cells #[.int .i64 z,.int .i64 b,.string r] 26 (0,0))):=heap_alloc_new w _;have HA:Hid (Below w.heap.size w (w.alloc (.cells #[.int .i64 z,.int .i64 b,.string r] 26))):=(Below.refl _ _).alloc nl _
 cases hc:rightB z b r with
 |false =>
  have HF:=hideL (bytesL_no hc);rw[hc]at HR;rw[HF.o];clear HF hc;unfold lV at HR ⊢;go_enter func13,ntmps13
  go_wp2_with fail
  refine(HR.o _).mono ?_;rintro e w1 ⟨rfl,hb1⟩;have HB1:=hideL (lowL HA.o hb1);clear hb1
  go_wp2_with fail
  go_ret;exact⟨rfl,HB1.o⟩
 |true =>
  have HF:=hideL (bytesL_yes hc);have HL:=hideL (fun W=>l07_spec z b r W hc);rw[hc]at HR;rw[HF.o];clear HF hc;generalize bytesA z b r=R at HL ⊢;unfold lV at HR HL ⊢;go_enter func13,ntmps13
  go_wp2_with fail
  refine(HR.o _).mono ?_;rintro e w1 ⟨rfl,hb1⟩;have X1:=hideL (blkL HX.o hb1);have HB1:=hideL (lowL HA.o hb1);clear hb1 HX HA;obtain⟨c0,c1,c2⟩:=cells3 X1.o
  go_wp2_with fail
  refine(HL.o _).mono ?_;rintro e w2 ⟨rfl,hb2⟩;have HB2:=hideL (lowL HB1.o hb2);clear hb2 c0 c1 c2
  go_wp2_with fail
  go_ret;exact⟨rfl,HB2.o⟩
theorem bytes_impl (z b:Int) (r:ByteArray) (w:World) :
  Calls prog 7 #[lV z b r] w fun e w'=>e=.returned (.string (bytesL z b r))/\Below w.heap.size w w':=by
 have HR:=hideL (fun W=>right_impl z b r W);have HX:Hid ((w.alloc (.cells #[.int .i64 z,.int .i64 b,.string r] 26)).heap[w.heap.size]? = some (.cells #[.int .i64 z,.int .i64 b,.string r] 26 (0,0))):=heap_alloc_new w _;have HA:Hid (Below w.heap.size w (w.alloc (.cells #[.int .i64 z,.int .i64 b,.string r] 26))):=(Below.refl _ _).alloc nl _
 cases hc:rightB z b r with
 |false =>
  have HF:=hideL (bytesL_no hc);rw[hc]at HR;rw[HF.o];clear HF hc;unfold lV at HR ⊢;go_enter func7,ntmps7
  go_wp2_with fail
  refine(HR.o _).mono ?_;rintro e w1 ⟨rfl,hb1⟩;have HB1:=hideL (lowL HA.o hb1);clear hb1
  go_wp2_with fail
  go_ret;exact⟨rfl,HB1.o⟩
 |true =>
  have h:=rightB_yes hc;have HF:=hideL (bytesL_yes hc)
  have HN:Hid (∀ W g,W.heap[g]? = some (.cells #[.int .i64 z,.int .i64 b] 2 (0,0))->Calls prog 32 #[.slice (some ⟨g,0,none⟩) 2 2] W fun e w'=>e=.returned (.string ⟨(numsL [z,b]).toArray⟩)/\Below W.heap.size W w'):=fun W g hh =>
   nums_any [z,b] _ 2 2 W (ints_twoL hh) rfl (by decide) (by intro x hx;simp at hx;omega)
  have HT:=hideL (fun W=>text_impl r W (by unfold maxLen;omega));have p3:=putT_size r h.2.2.2.2.1
  have HJ:Hid (∀ W g,W.heap[g]? = some (.cells #[.string ⟨(numsL [z,b]).toArray⟩,.string (putT r)] 9 (0,0))->Calls prog 31 #[.slice (some ⟨g,0,none⟩) 2 2] W fun e w'=>e=.returned (.string (bytesA z b r))/\Below W.heap.size W w'):=fun W g hh=>by
   have:=join_any [⟨(numsL [z,b]).toArray⟩,putT r] _ 2 2 W (strs_twoL hh) rfl (by decide) (by
    unfold cat;simp
    have:=numsL_le [z,b]
    simp at this
    omega)
   rw[cat_bytes]at this;exact this
  rw[hc]at HR;rw[HF.o];clear HF hc h p3;generalize bytesA z b r=R at HJ ⊢;generalize (⟨(numsL [z,b]).toArray⟩:ByteArray)=P1 at HJ HN;generalize putT r=P2 at HJ HT;unfold lV at HR ⊢;go_enter func7,ntmps7
  go_wp2_with fail
  refine(HR.o _).mono ?_;rintro e w1 ⟨rfl,hb1⟩;have X1:=hideL (blkL HX.o hb1);have HB1:=hideL (lowL HA.o hb1);clear hb1 HX HA HR;generalize w.heap.size=gx at X1 ⊢;have CB:Hid (∀ W,Below w1.heap.size w1 W->W.cell? ⟨gx,0,none⟩=some (.int .i64 z)/\W.cell? ⟨gx,1,none⟩=some (.int .i64 b)/\W.cell? ⟨gx,2,none⟩=some (.string r)):=fun W h=>cells3 (blkL X1.o h)
  go_upto_region 3 with fail
  have hS0:=CB.o _ (lm_drew (Below.refl w1.heap.size w1))
  go_region_held3 (fun W=>W.cell? ⟨gx,0,none⟩=some (.int .i64 z)/\W.cell? ⟨gx,1,none⟩=some (.int .i64 b)/\W.cell? ⟨gx,2,none⟩=some (.string r))
   (first|assumption|exact CB.o _ (by repeat (first|exact LJ.o|exact LN.o|exact LT.o|exact Below.refl _ _|refine lm_alloc ?_ _|refine lm_drew ?_)))
   (first
    |(go_at_call 32;(with_reducible refine(HN.o _ _ ?_).mono ?_);(· first|exact heap_alloc_new _ _|exact blkL (heap_alloc_new _ _) KT.o);rintro e wn ⟨rfl,hbn⟩;have LN:=hideL (lowL (w0:=w1) (by repeat (first|exact LT.o|exact Below.refl _ _|refine lm_alloc ?_ _|refine lm_drew ?_)) hbn);clear hbn)
    |(go_at_call 33;(with_reducible refine(HT.o _).mono ?_);rintro e wt ⟨rfl,hbt⟩;have KT:=hideL hbt;have LT:=hideL (lowL (w0:=w1) (by repeat (first|exact LN.o|exact Below.refl _ _|refine lm_alloc ?_ _|refine lm_drew ?_)) hbt);clear hbt)
    |(go_at_call 31;(with_reducible refine(HJ.o _ _ ?_).mono ?_);(· exact heap_alloc_new _ _);rintro e wj ⟨rfl,hbj⟩;have LJ:=hideL (lowL (w0:=w1) (by repeat (first|exact LN.o|exact LT.o|exact Below.refl _ _|refine lm_alloc ?_ _|refine lm_drew ?_)) hbj);clear hbj))
  all_goals (try go_wp2_with fail)
  all_goals (go_ret;exact⟨rfl,HB1.o.trans (LJ.o.mono HB1.o.size)⟩)
end Ls
namespace Tr
def path (l:List ByteArray) (i:Nat):List ByteArray :=
 if _h:l.length<=1 then []
 else if i<half l.length then path (l.take (half l.length)) i++[tree (l.drop (half l.length))]
 else path (l.drop (half l.length)) (i-half l.length)++[tree (l.take (half l.length))]
termination_by l.length
decreasing_by
 ·have:=half_lt l.length (by omega)
  simp;omega
 ·have:=half_pos l.length
  simp;omega
theorem path_one (l:List ByteArray) (i:Nat) (h:l.length<=1):path l i=[]:=by rw[path,dif_pos h]
theorem path_left (l:List ByteArray) (i:Nat) (h:2<=l.length) (hi:i<half l.length):path l i=path (l.take (half l.length)) i++[tree (l.drop (half l.length))]:=by
 rw[path,dif_neg (by omega),if_pos hi]
theorem path_right (l:List ByteArray) (i:Nat) (h:2<=l.length) (hi:¬i<half l.length):path l i=path (l.drop (half l.length)) (i-half l.length)++[tree (l.take (half l.length))]:=by
 rw[path,dif_neg (by omega),if_neg hi]
theorem path_length:∀ (m:Nat) (l:List ByteArray) (i:Nat),l.length<=m->(path l i).length<=l.length
 |0,l,i,h=>by
  rw[path_one l i (by omega)];simp
 |m+1,l,i,h=>by
  by_cases h1:l.length<=1
  ·rw[path_one l i h1]
   simp
  ·have h2:=half_lt l.length (by omega)
   have h3:=half_pos l.length;by_cases hi:i<half l.length
   ·rw[path_left l i (by omega) hi]
    have:=path_length m (l.take (half l.length)) i (by simp;omega)
    simp at this ⊢;omega
   ·rw[path_right l i (by omega) hi]
    have:=path_length m (l.drop (half l.length)) (i-half l.length) (by simp;omega)
    simp at this ⊢;omega
def pathR (l:List ByteArray) (i:Int):List ByteArray:=if right l=true/\0<=i/\i<l.length then path l i.toNat else []
end Tr
namespace Se
def sealL (l:List UInt8):List UInt8:=l++fourL (Cr.fin (Cr.crcL (Cr.fin 0) l))
theorem unseal_back (t:ByteArray) (ht:t.size<=7996):unsealV (sealV t)=outV t 0 0:=by
 have hs:sealV t=t++fourS (crcOf t):=by unfold sealV;rw[if_pos ht]
 have hz:(sealV t).size=t.size+4:=by rw[hs];simp[ByteArray.size_append,fourS_size]
 have hx:(sealV t).extract 0 ((sealV t).size-4)=t:=by
  rw[hz,hs,Nat.add_sub_cancel];exact ByteArray.extract_append_eq_left rfl
 unfold unsealV;rw[if_neg (by omega),if_neg (by omega),hx,if_pos rfl]
end Se
namespace Up
open Pk
open Se (sealV unsealV outV unseal_back unsealV_yes unsealV_no)
open Sh (bt)
theorem unseal_case (s:ByteArray):(∃ t,unsealV s=outV t 0 0/\sealV t=s/\t.size<=7996/\4<=s.size)∨∃ c:Int,¬c=0/\unsealV s=outV ⟨#[]⟩ 0 c:=by
 by_cases h1:8000<s.size
 ·refine .inr ⟨2,by decide,?_⟩
  unfold unsealV;rw[if_pos h1]
 ·by_cases h2:s.size<4
  ·refine .inr ⟨4,by decide,?_⟩
   unfold unsealV;rw[if_neg h1,if_pos h2]
  ·by_cases h:sealV (s.extract 0 (s.size-4))=s
   ·refine .inl ⟨_,unsealV_yes s _ h1 h2 rfl h,h,?_,by omega⟩
    rw[ByteArray.size_extract];omega
   ·exact .inr ⟨5,by decide,unsealV_no s _ h1 h2 rfl h⟩
noncomputable def ansT (t:ByteArray):Value:=open Classical in if h:∃ b:ByteArray,b.size<=48/\innerV b=t then outV (Classical.choose h) 0 0 else outV ⟨#[]⟩ 0 3
noncomputable def ansU (s:ByteArray):Value:=open Classical in if h:∃ t,unsealV s=outV t 0 0 then ansT (Classical.choose h) else unsealV s
theorem ansU_yes {s t:ByteArray} (h:unsealV s=outV t 0 0):ansU s=ansT t:=by
 have hx:∃ t,unsealV s=outV t 0 0:=⟨t,h⟩;unfold ansU;rw[dif_pos hx];have e:=h.symm.trans (Classical.choose_spec hx);generalize Classical.choose hx=c at e ⊢;unfold outV at e;simp at e;rw[e]
theorem ansU_no {s:ByteArray} {c:Int} (h0:¬c=0) (h:unsealV s=outV ⟨#[]⟩ 0 c):ansU s=outV ⟨#[]⟩ 0 c:=by
 have hx:¬∃ t,unsealV s=outV t 0 0:=by
  rintro⟨t,ht⟩;rw[h]at ht;unfold outV at ht;simp at ht;exact h0 ht.2
 unfold ansU;rw[dif_neg hx,h]
theorem inner_size {b:ByteArray} (h:b.size<=48):(innerV b).size<=49:=by
 unfold innerV
 split
 ·omega
 ·rw[plainV_size];omega
theorem pack_inner {s t b:ByteArray} (h:sealV t=s) (ht:t.size<=7996) (h4:4<=s.size):packB b=s↔b.size<=48/\innerV b=t:=by
 unfold packB;by_cases hb:48<b.size
 ·rw[if_pos hb]
  constructor
  ·intro e
   rw[<-e]at h4;exact absurd h4 (by decide)
  ·intro e
   omega
 ·rw[if_neg hb]
  have hi:=inner_size (b:=b) (by omega)
  constructor
  ·intro e
   refine⟨by omega,?_⟩;have h1:=unseal_back (innerV b) (by omega);have h2:=unseal_back t ht;rw[e,<-h]at h1;rw[h1]at h2;unfold outV at h2;simp at h2;exact h2
  ·intro e
   rw[e.2,h]
theorem ansT_read {s t r:ByteArray} (h:sealV t=s) (ht:t.size<=7996) (h4:4<=s.size) (hr:∀ b:ByteArray,b.size<=48->innerV b=t->r=b):(packB r=s->ansT t=outV r 0 0)/\(¬packB r=s->ansT t=outV ⟨#[]⟩ 0 3):=by
 refine⟨fun e=>?_,fun e=>?_⟩
 ·have hx:∃ b:ByteArray,b.size<=48/\innerV b=t:=⟨r,(pack_inner h ht h4).1 e⟩
  unfold ansT;rw[dif_pos hx]
  have:=Classical.choose_spec hx
  rw[<-hr _ this.1 this.2]
 ·unfold ansT
  rw[dif_neg];rintro⟨b,h1,h2⟩;refine e ?_;rw[hr b h1 h2];exact(pack_inner h ht h4).2 ⟨h1,h2⟩
theorem ansT_none {t:ByteArray} (hr:∀ b:ByteArray,b.size<=48->¬innerV b=t):ansT t=outV ⟨#[]⟩ 0 3:=by
 unfold ansT;rw[dif_neg];rintro⟨b,h1,h2⟩;exact hr b h1 h2
theorem inner_case {t b:ByteArray} (h:b.size<=48) (ht:innerV b=t):(Good t b/\0<t.size/\bt t 0=1)∨(t=plainV b/\0<t.size/\bt t 0=0/\t.extract 1 t.size=b):=by
 unfold innerV at ht
 split at ht
 ·rename_i hc
  refine .inl ⟨⟨h,ht.symm,hc⟩,?_,?_⟩
  ·rw[<-ht]
   show 0<(shortL b).toArray.size
   rw[List.size_toArray];unfold shortL;simp
  ·rw[<-ht]
   rfl
 ·refine .inr ⟨ht.symm,?_,?_,?_⟩
  ·rw[<-ht,plainV_size];omega
  ·rw[<-ht]
   rfl
  ·rw[<-ht]
   refine Bi.ext_list ?_;rw[ByteArray.data_extract,Array.toList_extract,List.extract_eq_take_drop,plainV_size]
   show (List.drop 1 (0 :: b.data.toList)).take _=_
   rw[List.drop_one,List.tail_cons,List.take_of_length_le];rw[Array.length_toList]
   show b.size<=_
   omega
end Up
namespace Ls
open Up (ansU ansT ansU_yes ansU_no unseal_case)
open Se (outV)
open Pk (cat)
noncomputable def blkT (s:ByteArray):Option ByteArray:=open Classical in if h:∃ t,ansU s=outV t 0 0 then some (Classical.choose h) else none
theorem outV_same {t u:ByteArray} {c d:Int} (h:outV t 0 c=outV u 0 d):t=u/\c=d:=by
 unfold outV at h;simp at h;exact h
theorem ansU_out (s:ByteArray):∃ t c,ansU s=outV t 0 c:=by
 rcases unseal_case s with⟨t,h,_⟩|⟨c,h0,h⟩
 ·rw[ansU_yes h]
  unfold ansT
  split<;>exact⟨_,_,rfl⟩
 ·rw[ansU_no h0 h]
  exact⟨_,_,rfl⟩
theorem blkT_yes {s t:ByteArray} (h:ansU s=outV t 0 0):blkT s=some t:=by
 have hx:∃ t,ansU s=outV t 0 0:=⟨t,h⟩;unfold blkT;rw[dif_pos hx]
 have:=h.symm.trans (Classical.choose_spec hx)
 rw[<-(outV_same this).1]
theorem blkT_no {s t:ByteArray} {c:Int} (h:ansU s=outV t 0 c) (hc:¬c=0):blkT s=none:=by
 unfold blkT;rw[dif_neg];rintro⟨u,hu⟩;rw[h]at hu;exact hc (outV_same hu).2
def mustN (z b:Int) (i:Nat):Int:=min b (z-i*b)
noncomputable def fileL (z b:Int):Nat->List ByteArray->List ByteArray
 |_,[]=>[]
 |i,p :: ps=>match blkT p with
  |none=>[]
  |some t=>if (t.size:Int)=mustN z b i then t :: fileL z b (i+1) ps else []
theorem fileL_next {z b:Int} {i:Nat} {p t:ByteArray} {ps:List ByteArray} (h:blkT p=some t) (hz:(t.size:Int)=mustN z b i):fileL z b i (p :: ps)=t :: fileL z b (i+1) ps:=by
 rw[fileL,h];exact if_pos hz
theorem fileL_none {z b:Int} {i:Nat} {p:ByteArray} {ps:List ByteArray} (h:blkT p=none):fileL z b i (p :: ps)=[]:=by
 rw[fileL,h]
theorem fileL_size {z b:Int} {i:Nat} {p t:ByteArray} {ps:List ByteArray} (h:blkT p=some t) (hz:¬(t.size:Int)=mustN z b i):fileL z b i (p :: ps)=[]:=by
 rw[fileL,h];exact if_neg hz
noncomputable def fileV (z b:Int) (r:ByteArray) (l:List ByteArray):ByteArray:=if 400<l.length then ⟨#[]⟩ else ⟨(cat (fileL z b 0 (l.take (countN z b r)))).toArray⟩
def FileF (z b:Int) (q:List ByteArray) (k:Nat) (D:List ByteArray):Prop:=D.length=k/\(∀ x∈D,(x.size:Int)<=b)/\fileL z b 0 q=D++fileL z b k (q.drop k)
theorem file_none (z b:Int) (q:List ByteArray):FileF z b q 0 []:=⟨rfl,fun _ h=>absurd h (List.not_mem_nil),rfl⟩
theorem file_next {z b:Int} {q D:List ByteArray} {k:Nat} {t:ByteArray} (h:FileF z b q k D) (hk:k<q.length) (ht:blkT q[k]=some t) (hz:(t.size:Int)=mustN z b k):FileF z b q (k+1) (D++[t]):=by
 refine⟨by rw[List.length_append,h.1];rfl,fun x hx=>?_,?_⟩
 ·rcases List.mem_append.1 hx with h1|h1
  ·exact h.2.1 x h1
  ·rw[List.mem_singleton]at h1
   subst h1;rw[hz];unfold mustN;omega
 ·rw[h.2.2,List.drop_eq_getElem_cons hk,fileL_next ht hz,List.append_assoc]
  rfl
theorem file_stop {z b:Int} {q D:List ByteArray} {k:Nat} (h:FileF z b q k D) (hk:k<q.length) (hs:blkT q[k]=none∨∃ t,blkT q[k]=some t/\¬(t.size:Int)=mustN z b k):fileL z b 0 q=D:=by
 rw[h.2.2,List.drop_eq_getElem_cons hk]
 rcases hs with h1|⟨t,h1,h2⟩
 ·rw[fileL_none h1,List.append_nil]
 ·rw[fileL_size h1 h2,List.append_nil]
theorem file_end {z b:Int} {q D:List ByteArray} {k:Nat} (h:FileF z b q k D) (hk:q.length<=k):fileL z b 0 q=D:=by
 rw[h.2.2,List.drop_eq_nil_of_le hk];exact List.append_nil _
theorem cat_le (m:Nat):∀ D:List ByteArray,(∀ x∈D,x.size<=m)->(cat D).length<=m*D.length
 |[],_=>by simp[cat]
 |x :: D,h=>by
  have h1:=cat_le m D fun y hy=>h y (List.mem_cons_of_mem _ hy);have h2:=h x List.mem_cons_self
  have e:cat (x :: D)=x.data.toList++cat D:=by simp[cat]
  rw[e,List.length_append,List.length_cons,Nat.mul_add,Array.length_toList]
  show x.size+_<=_
  omega
end Ls
namespace Tr
def ones (n:Nat):Nat:=if _h:n=0 then 0 else n%2+ones (n/2)
termination_by n
decreasing_by omega
def f1 (a:Nat):Nat:=(a/2 &&& 85)+(a &&& 85)
def f2 (a:Nat):Nat:=(a/4 &&& 51)+(a &&& 51)
def ones8 (a:Nat):Nat:=a%2+(a/2%2+(a/4%2+(a/8%2+(a/16%2+(a/32%2+(a/64%2+a/128%2))))))
end Tr
namespace Dr
theorem at_none (a:Option Addr) (cap:Nat) (i most:Int) (w:World) :
  Calls prog 25 #[.slice a 0 cap,.int .i64 i,.int .i64 most] w fun e w'=>e=.returned (.int .i64 0)/\w'=w:=by
 by_cases h:most<=1
 ·go_enter func25,ntmps25
  go_wp2
  go_ret;exact⟨rfl,rfl⟩
 ·go_enter func25,ntmps25
  go_wp2
  go_ret;exact⟨rfl,rfl⟩
/-- lwAt: some number below most (0,if most is 1 or less) -/
theorem at_any (B:Nat) (a:Option Addr) (len cap i:Nat) (most:Int) (w:World) (hl:len<=1048576) (hi:i<=1000) (hm:most<=9223372036854775807) (hr:Row w B a len) :
  Calls prog 25 #[.slice a len cap,.int .i64 i,.int .i64 most] w fun e w'=>∃ r:Int,e=.returned (.int .i64 r)/\0<=r/\(r<most∨r=0)/\w'=w:=by
 rcases hr with h0|⟨b,off,rfl,hlt,hc⟩
 ·subst h0
  exact(at_none a cap i most w).mono fun e w' ⟨e1,e2⟩=>⟨0,e1,Int.le_refl _,.inr rfl,e2⟩
 ·by_cases h0:len=0
  ·subst h0
   exact(at_none _ cap i most w).mono fun e w' ⟨e1,e2⟩=>⟨0,e1,Int.le_refl _,.inr rfl,e2⟩
  ·by_cases h:most<=1
   ·clear hc
    go_enter func25,ntmps25
    go_wp2
    go_ret;exact⟨0,rfl,Int.le_refl _,.inr rfl,rfl⟩
   ·obtain⟨z,hz,z1,z2⟩:=hc (i%len) (Nat.mod_lt _ (by omega))
    have hlb:((len:Int)==0)=false:=beq_eq_false_iff_ne.2 (by omega);have g1:(0:Int)<=(i:Int)%(len:Int):=Int.emod_nonneg _ (by omega);have g2:(i:Int)%(len:Int)<(len:Int):=Int.emod_lt_of_pos _ (by omega);have g3:((i:Int)%(len:Int)).toNat=i%len:=(by rw[<-Int.natCast_emod,Int.toNat_natCast]);have HM:=hideD h;clear hc;go_enter func25,ntmps25
    go_wp2
    go_ret;exact⟨_,rfl,Int.emod_nonneg _ (by omega),.inl (Int.emod_lt_of_pos _ (by omega)),rfl⟩
end Dr
end Go.Proofs.YtaejgfdkfcmjeaaGreatDoor
