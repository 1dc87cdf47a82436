/- Texts put together: WyLaw. -/
import Derived.Test.YtjfdllgodijibaaGreatDoorWz26
import Derived.Test.YtjfdllgodijibaaGreatDoorWz47
import Derived.Test.YtjfdllgodijibaaGreatDoorWz48
import Derived.Test.YtjfdllgodijibaaGreatDoorWz49
import Derived.Test.YtjfdllgodijibaaGreatDoorWz27
import Derived.Deep.CutRange
import Derived.Deep.RegionHeld3
set_option maxRecDepth 100000
set_option maxHeartbeats 8000000
namespace Go.Proofs.YtjfdllgodijibaaGreatDoor.fnWay
open Go.RowKit
open Dr (Row drawWay_any drawFits_any ofC pcC)
open Tr
open Kp (hideK lt_rowK)
open Sh (Vars digestV digest_impl)
open Ls (fitsB rightB countN fits_impl right_spec count_spec cells3 vars_keepF)
open St (Strs OwnS texts_any)
theorem row_keep {w w':World} {a:Option Addr} {n:Nat} (h:Row w w.heap.size a n) (hb:Below w.heap.size w w'):Row w' w'.heap.size a n:=(Dr.Row.below h hb).mono hb.size
theorem low_keep {w0 w w':World} (h:Below w0.heap.size w0 w) (hb:Below w.heap.size w w'):Below w0.heap.size w0 w':=h.trans (hb.mono h.size)
theorem blk_keep {w w':World} {g:Nat} {x:Obj} (h:w.heap[g]? = some x) (hb:Below w.heap.size w w'):w'.heap[g]? = some x:=(hb.block g (Array.getElem?_eq_some_iff.1 h).1).trans h
theorem strs_keep {w w':World} {a:Option Addr} {l:List ByteArray} (h:Strs w w.heap.size a l) (hb:Below w.heap.size w w'):Strs w' w'.heap.size a l:=(h.below hb).mono hb.size
theorem strs_someW {w:World} {B:Nat} {a:Option Addr} {l:List ByteArray} (h:Strs w B a l) (h0:0<l.length):∃ b off,a=some ⟨b,off,none⟩/\b<B/\∀ j (h:j<l.length),w.cell? ⟨b,off+j,none⟩=some (.string l[j]):=by
 rcases h with h|h
 ·subst h
  simp at h0
 ·exact h
theorem way_size {i n:Int} {t:ByteArray} {p:List ByteArray} (j:Nat) (h:j<(wayL i n t p).length):((wayL i n t p)[j]).size<=101:=by
 cases hx:wayX i n t p with
 |none=>rw[wayL_none hx]at h;cases h
 |some x =>
  have hok:okW i n t p:=by
   by_cases hk:okW i n t p
   ·exact hk
   ·rw[wayX_no hk]at hx;cases hx
  obtain⟨i',rfl⟩:=Int.eq_ofNat_of_zero_le hok.1
  obtain⟨n',rfl⟩:=Int.eq_ofNat_of_zero_le (show 0<=n by have:=hok.2.1;omega)
  rw[wayX_yes hok]at hx
  have hg:=(gR_good hok.2.2.2.1 n' n' i' p x ((wide_yes p).1 hok.2.2.2.2.2) hx).1
  have hL:wayL (i':Int) (n':Int) t p=x.2.map Stp.text:=wayL_some (by rw[wayX_yes hok];exact hx)
  have hlen:j<x.2.length:=by rw[hL,List.length_map]at h;exact h
  have g0:(wayL (i':Int) (n':Int) t p)[j]=(x.2[j]).text:=by simp only[hL,List.getElem_map]
  rw[g0]
  have hf:=hg.2.1 x.2[j] (List.getElem_mem _)
  generalize x.2[j]=s at hf
  cases s with
  |leaf q =>
   have h1:q.size<=100:=hf
   show ((⟨#[0]⟩:ByteArray)++q).size<=101
   rw[ByteArray.size_append]
   show 1+q.size<=101
   omega
  |node l r =>
   have h1:l.size=32/\r.size=32:=hf
   have:=(node_parts l r h1.1 h1.2).1
   omega
theorem wayL_length (i n:Int) (t:ByteArray) (p:List ByteArray):(wayL i n t p).length<=64:=by
 cases hx:wayX i n t p with
 |none=>rw[wayL_none hx];simp
 |some x =>
  rw[wayL_some hx,List.length_map]
  have hok:okW i n t p:=by
   by_cases h:okW i n t p
   ·exact h
   ·rw[wayX_no h]at hx;cases hx
  obtain⟨k1,k2,k3,k4,k5,k6⟩:=hok
  obtain⟨i',rfl⟩:=Int.eq_ofNat_of_zero_le k1
  obtain⟨n',rfl⟩:=Int.eq_ofNat_of_zero_le (show 0<=n by omega)
  rw[wayX_yes ⟨k1,k2,k3,k4,k5,k6⟩]at hx
  have:=(gR_good k4 n' n' i' p x ((wide_yes p).1 k6) hx).2
  omega
theorem same_owns {l:List ByteArray} {b b':Nat} {u v:Value} {W:World} (h1:OwnS W b u l) (h2:OwnS W b' v l) (hl:l.length<=1048576) :
  Calls Tryz.prog 6 #[u,v] W fun e w'=>e=.returned (.bool true)/\Below W.heap.size W w':=by
 obtain⟨x,cx,rfl,_,hx⟩:=h1.strs
 obtain⟨y,cy,rfl,_,hy⟩:=h2.strs
 exact texts_any x y cx cy l W W.heap.size hx hy hl
def NextIn (L:List ByteArray):Prop:=∀ j (h:j+1<L.length),L[j+1].size=65/\(L[j+1].extract 1 33=digestV (L[j]'(by omega))∨L[j+1].extract 33 65=digestV (L[j]'(by omega)))
def LastIs (M:List ByteArray) (F:Bool) (r:ByteArray):Prop:=∀ m (h:m<M.length),M.length=m+1->F=decide (digestV M[m]=r)
theorem lastIs {z b:Int} {r:ByteArray} {k:Int} {t:ByteArray} {q:List ByteArray} (hr:rightB z b r=true):LastIs (wayL k (countN z b r:Nat) t q) (fitsB z b r k t q) r:=fun m h he=>by
 rw[fits_way hr (by omega)]
 have e:(wayL k (countN z b r:Nat) t q).length-1=m:=by omega
 simp only[e]
def SmallIn (L:List ByteArray):Prop:=∀ j (h:j<L.length),L[j].size<=101
theorem walk_in (w:World) (a:Option Addr) (len cap:Nat) (hr:Row w w.heap.size a len) (hl:len<=1048576) (hV:Vars w) :
  Calls Tryz.prog 3 #[.slice a len cap] w fun e w'=>e=.returned (.bool true)/\Below w.heap.size w w':=by
 have g0:(len:Int)<=1048576:=by omega
 have f0:¬(1048576:Int)<len:=by omega
 have d0:decide ((1048576:Int)<len)=false:=by simp;omega
 have R0:=hideK hr
 have HV:=hideK hV
 clear hr hV
 go_enter Tryz.func3,Tryz.ntmps3
 go_wp2_with fail
 refine(drawWay_any a len cap w hl R0.out ofC pcC).mono ?_
 rintro e w1 ⟨k1,n1,t1,v1,q1,rfl,hn1,ht1,ho1,hq1,hb⟩
 have B1:=hideK hb
 obtain⟨x1,c1,hv1,hc1,hx1⟩:=ho1.strs
 subst hv1
 have X1:=hideK hx1
 have V1:=hideK (vars_keepF HV.out hb)
 clear hb ho1 hx1
 go_wp2_with fail
 refine(way_impl k1 n1 t1 q1 x1 c1 q1.length w1 rfl (by omega) hc1 X1.out V1.out).mono ?_
 rintro e w2 ⟨v2,rfl,ho2,hb⟩
 have B2:=hideK (low_keep B1.out hb)
 have X2:=hideK (strs_keep X1.out hb)
 have O2:=hideK ho2
 clear hb ho2 X1 V1 B1
 go_wp2_with fail
 refine(way_spec k1 n1 t1 q1 x1 c1 q1.length w2 rfl (by omega) (by omega) X2.out).mono ?_
 rintro e w3 ⟨v3,rfl,ho3,hb⟩
 have B3:=hideK (low_keep B2.out hb)
 have O2b:=hideK (O2.out.below hb)
 have O3:=hideK ho3
 clear hb ho3 X2 O2 B2
 have HN:Hid (NextIn (wayL k1 n1 t1 q1)):=fun j h=>way_next j h
 have HS:Hid (SmallIn (wayL k1 n1 t1 q1)):=fun j h=>way_size j h
 have HLn:=hideK (wayL_length k1 n1 t1 q1)
 generalize wayL k1 n1 t1 q1=L at HN HS HLn O2b O3
 go_wp2_with fail
 refine(same_owns O2b.out O3.out (by have:=HLn.out;omega)).mono ?_
 rintro e w4 ⟨rfl,hb⟩
 have B4:=hideK (low_keep B3.out hb)
 have O4:=hideK (O2b.out.below hb)
 obtain⟨x4,c4,hv4,hc4,hx4⟩:=O4.out.strs
 obtain⟨n,hn⟩:∃ n,n=L.length:=⟨_,rfl⟩
 rw[<-hn]at hv4 HLn hc4
 subst hv4
 have HNn:=hideK hn
 have S4:=hideK hx4
 clear hb B3 O3 O2b O4 hx4 hn
 go_wp2_with fail
 go_loopw [8] (fun jv wr=>∃ j:Nat,jv=.int .i64 j/\j<=n/\Below w.heap.size w wr/\Strs wr wr.heap.size x4 L) (fun jv _=>n-(intOf jv).toNat)
 case atStart=>exact⟨0,rfl,Nat.zero_le _,B4.out,S4.out⟩
 case round =>
  obtain⟨j,rfl,hj,hbw,hst⟩:=hrel
  have BW:=hideK hbw
  have SW:=hideK hst
  have hn64:n<=64:=HLn.out
  have hwj:IntKind.i64.wrap ((j:Int)+1)=(j:Int)+1:=by rw[IntKind.wrap_i64];omega
  clear hbw hst B4 S4
  by_cases hlt:j+1<n
  ·have hlti:(j:Int)+1<(n:Int):=by omega
   have hltd:decide ((j:Int)+1<(n:Int))=true:=by simp;omega
   have hjl:j+1<L.length:=by rw[<-HNn.out];exact hlt
   obtain⟨bb,off,rfl,_,hcl⟩:=strs_someW SW.out (by omega)
   have ci:=hcl j (by omega)
   have c1i:=hcl (j+1) hjl
   have hbl:=HN.out j hjl
   have hsm:=HS.out j (by omega)
   have VW:=hideK (vars_keepF HV.out BW.out)
   have hj0:(0:Int)<=(j:Int):=by omega
   have hjn:(j:Int)<(n:Int):=by omega
   generalize L[j]'(by omega)=x at ci hbl hsm
   generalize L[j+1]=y at c1i hbl
   have HBL:=hideK hbl
   have HC1:=hideK (fun (W:World) (hW:Below wr.heap.size wr W)=>(World.cell?_of_block (w:=wr) (a:=⟨bb,off+(j+1),none⟩) (hW.block bb (by assumption))).trans c1i)
   clear hcl hbl
   go_wp2_with fail
   refine(digest_impl x wr (by unfold maxLen;omega) VW.out).mono ?_
   rintro e w5 ⟨rfl,hb⟩
   have c5:=HC1.out _ hb
   have B5:=hideK (low_keep BW.out hb)
   have S5:=hideK (strs_keep SW.out hb)
   obtain⟨hy,hyd⟩:=HBL.out
   clear hb ci c1i HC1 HBL BW SW
   have hyi:(y.size:Int)=65:=by omega
   generalize digestV x=d at hyd
   by_cases he:y.extract 1 33=d
   ·clear hyd
    go_wp2_with fail
    all_goals (first|(go_roundw;(case rel=>exact⟨j+1,by go_num,by omega,B5.out,S5.out⟩);(case measure=>simp[intOf];omega))|(exact⟨⟨j+1,by go_num,by omega,B5.out,S5.out⟩,by simp[intOf];omega⟩))
   ·have hf:y.extract 33 65=d:=hyd.resolve_left he
    clear hyd
    go_wp2_with fail
    all_goals (first|(go_roundw;(case rel=>exact⟨j+1,by go_num,by omega,B5.out,S5.out⟩);(case measure=>simp[intOf];omega))|(exact⟨⟨j+1,by go_num,by omega,B5.out,S5.out⟩,by simp[intOf];omega⟩))
  ·have hlti:¬(j:Int)+1<(n:Int):=by omega
   have hltd:decide ((j:Int)+1<(n:Int))=false:=by simp;omega
   clear HN HS SW
   go_wp2_with fail
   refine(drawFits_any a len cap wr hl (row_keep R0.out BW.out) ofC pcC).mono ?_
   rintro e w6 ⟨z,b,r,k,t,v,q,rfl,hrs,hts,ho,hq,hb⟩
   have B6:=hideK (low_keep BW.out hb)
   obtain⟨x6,c6,hv6,hc6,hx6⟩:=ho.strs
   subst hv6
   have S6:=hideK hx6
   have X7:Hid ((w6.alloc (.cells #[.int .i64 z,.int .i64 b,.string r] 30)).heap[w6.heap.size]? = some (.cells #[.int .i64 z,.int .i64 b,.string r] 30 (0,0))):=heap_alloc_new w6 _
   have L7:Hid (Below w6.heap.size w6 (w6.alloc (.cells #[.int .i64 z,.int .i64 b,.string r] 30))):=(Below.refl _ _).alloc (Nat.le_refl _) _
   have B7:=hideK (low_keep B6.out L7.out)
   have S7:=hideK (strs_keep S6.out L7.out)
   clear hb ho hx6 S6 B6 L7 BW
   go_upto_region 14 with fail
   generalize w6.alloc _=W7 at X7 B7 S7 ⊢
   generalize w6.heap.size=g at X7 ⊢
   obtain⟨y0,y1,y2⟩:=cells3 X7.out
   go_wp2_with fail
   refine(count_spec z b r W7).mono ?_
   rintro e w8 ⟨rfl,hb⟩
   have X8:=hideK (blk_keep X7.out hb)
   have B8:=hideK (low_keep B7.out hb)
   have S8:=hideK (strs_keep S7.out hb)
   have V8:=hideK (vars_keepF HV.out B8.out)
   clear hb X7 B7 S7 y0 y1 y2
   go_wp2_with fail
   refine(way_impl k (countN z b r:Nat) t q x6 c6 q.length w8 rfl (by omega) hc6 S8.out V8.out).mono ?_
   rintro e w9 ⟨v9,rfl,ho9,hb⟩
   have X9:=hideK (blk_keep X8.out hb)
   have B9:=hideK (low_keep B8.out hb)
   have S9:=hideK (strs_keep S8.out hb)
   clear hb X8 B8 S8 V8
   have HFI:Hid (∀ W,Below w9.heap.size w9 W->Calls Tryz.prog 12 #[.agg #[.int .i64 z,.int .i64 b,.string r],.int .i64 k,.string t,.slice x6 q.length c6] W fun e w'=>e=.returned (.bool (fitsB z b r k t q))/\Below W.heap.size W w'):=fun W hW=>fits_impl z b r k t q x6 c6 q.length W (by unfold maxLen;omega) rfl (by omega) hc6 (strs_keep S9.out hW) (vars_keepF HV.out (low_keep B9.out hW))
   have HRS:Hid (Calls Tryz.prog 11 #[.agg #[.int .i64 z,.int .i64 b,.string r]] w9 fun e w'=>e=.returned (.bool (rightB z b r))/\Below w9.heap.size w9 w'):=right_spec z b r w9
   have HF0:Hid (wayL k (countN z b r:Nat) t q=[]->fitsB z b r k t q=false):=fun h=>fits_noway h
   have HF1:Hid (rightB z b r=true->LastIs (wayL k (countN z b r:Nat) t q) (fitsB z b r k t q) r):=fun h1=>lastIs h1
   have HR0:Hid (rightB z b r=false->wayL k (countN z b r:Nat) t q=[]):=fun h=>by
    have h0:countN z b r=0:=Ls.countN_no h
    refine wayL_none (wayX_no fun hk=>?_)
    have h1:=hk.1
    have h2:=hk.2.1
    rw[h0]at h2
    exact absurd h2 (by simp;omega)
   have HS9:Hid (SmallIn (wayL k (countN z b r:Nat) t q)):=fun j h=>way_size j h
   have HL9:=hideK (wayL_length k (countN z b r:Nat) t q)
   generalize wayL k (countN z b r:Nat) t q=M at ho9 HF0 HF1 HR0 HS9 HL9
   generalize fitsB z b r k t q=F at HFI HF0 HF1
   obtain⟨x9,c9,hv9,_,hx9⟩:=ho9.strs
   subst hv9
   have SM:=hideK hx9
   have CX:Hid (∀ W,Below w9.heap.size w9 W->W.cell? ⟨g,0,none⟩=some (.int .i64 z)/\W.cell? ⟨g,1,none⟩=some (.int .i64 b)/\W.cell? ⟨g,2,none⟩=some (.string r)):=fun W h=>cells3 (blk_keep X9.out h)
   clear ho9 hx9 S9 X9
   obtain⟨y0,y1,y2⟩:=CX.out _ (Below.refl _ _)
   go_wp2_with fail
   refine HRS.out.mono ?_
   rintro e w10 ⟨rfl,hb⟩
   have K:=hideK hb
   clear hb y0 y1 y2
   obtain⟨y0,y1,y2⟩:=CX.out _ K.out
   cases hR:rightB z b r with
   |false =>
    have hM:=HR0.out hR
    have hF:=HF0.out hM
    subst hM
    subst hF
    clear HF0 HF1 HR0 HS9 HL9 HRS
    go_wp2_with fail
    refine(HFI.out _ K.out).mono ?_
    rintro e w11 ⟨rfl,hb⟩
    have B11:=hideK (low_keep B9.out (low_keep K.out hb))
    clear hb
    go_wp2_with fail
    go_ret
    exact⟨rfl,B11.out⟩
   |true =>
    have HT:=hideK (HF1.out hR)
    clear HF1 HR0 HRS hR
    by_cases hm0:M.length=0
    ·have hM:M=[]:=List.eq_nil_of_length_eq_zero hm0
     have hF:=HF0.out hM
     subst hM
     subst hF
     clear HF0 HS9 HL9 HT
     go_wp2_with fail
     refine(HFI.out _ K.out).mono ?_
     rintro e w11 ⟨rfl,hb⟩
     have B11:=hideK (low_keep B9.out (low_keep K.out hb))
     clear hb
     go_wp2_with fail
     go_ret
     exact⟨rfl,B11.out⟩
    ·obtain⟨m,hm⟩:∃ m,M.length=m+1:=⟨M.length-1,by omega⟩
     have hml:m<M.length:=by omega
     have hm64:m<=64:=by have:=HL9.out;omega
     have HFF:=hideK (HT.out m hml hm)
     have hsm:=HS9.out m hml
     obtain⟨bb,off,rfl,_,hcl⟩:=strs_someW SM.out (by omega)
     have hlast:=hcl m hml
     have hmi:¬((m:Int)+1=0):=by omega
     have hwm:IntKind.i64.wrap ((m:Int)+1-1)=(m:Int):=by rw[IntKind.wrap_i64];omega
     have hwm2:IntKind.i64.wrap (m:Int)=(m:Int):=by rw[IntKind.wrap_i64];omega
     have hm0i:(0:Int)<=(m:Int):=by omega
     have hmlt:(m:Int)<(m:Int)+1:=by omega
     have hmge:¬(m:Int)+1<=(m:Int):=by omega
     have hmn:m<m+1:=by omega
     have CY:Hid (∀ W,Below w10.heap.size w10 W->W.cell? ⟨g,0,none⟩=some (.int .i64 z)/\W.cell? ⟨g,1,none⟩=some (.int .i64 b)/\W.cell? ⟨g,2,none⟩=some (.string r)/\W.cell? ⟨bb,off+m,none⟩=some (.string M[m])):=fun W h=>by
      obtain⟨e0,e1,e2⟩:=CX.out W (low_keep K.out h)
      refine⟨e0,e1,e2,?_⟩
      exact(World.cell?_of_block (w:=w9) (a:=⟨bb,off+m,none⟩) ((low_keep K.out h).block bb (by assumption))).trans hlast
     have HFJ:Hid (∀ W,Below w10.heap.size w10 W->Calls Tryz.prog 12 #[.agg #[.int .i64 z,.int .i64 b,.string r],.int .i64 k,.string t,.slice x6 q.length c6] W fun e w'=>e=.returned (.bool F)/\Below W.heap.size W w'):=fun W h=>HFI.out W (low_keep K.out h)
     have B10:=hideK (low_keep B9.out K.out)
     have HDJ:Hid (∀ W,Below w10.heap.size w10 W->Calls Tryz.prog 8 #[.string M[m]] W fun e w'=>e=.returned (.string (digestV M[m]))/\Below W.heap.size W w'):=fun W h=>digest_impl M[m] W (by unfold maxLen;omega) (vars_keepF HV.out (low_keep B10.out h))
     generalize digestV M[m]=d at HFF HDJ
     generalize M[m]=xl at CY HDJ hsm
     rw[hm]
     clear HFI CX hlast hcl SM HS9 HL9 HT HF0 K B9 y0 y1 y2 hm0
     obtain⟨y0,y1,y2,yl⟩:=CY.out _ (Below.refl _ _)
     by_cases hdr:d=r
     ·have hF:F=true:=by rw[HFF.out];exact decide_eq_true hdr
      subst hF
      go_upto_region 17 with fail
      have K0:Hid (Below w10.heap.size w10 w10.drew):=(Below.refl _ _).drew
      have hS0:=CY.out _ K0.out
      go_region_held3 (fun W=>W.cell? ⟨g,0,none⟩=some (.int .i64 z)/\W.cell? ⟨g,1,none⟩=some (.int .i64 b)/\W.cell? ⟨g,2,none⟩=some (.string r)/\W.cell? ⟨bb,off+m,none⟩=some (.string xl)) (assumption) (first|(go_at_call 12;(with_reducible refine(HFJ.out _ ?_).mono ?_);(· first|exact KD.out|exact K0.out);rintro e vF ⟨rfl,hb⟩;have KF:=hideK (low_keep (show Below w10.heap.size w10 _ from (by first|exact KD.out|exact K0.out)) hb);have hSF:=CY.out _ KF.out;clear hb)|(go_at_call 8;(with_reducible refine(HDJ.out _ ?_).mono ?_);(· first|exact KF.out|exact K0.out);rintro e vD ⟨rfl,hb⟩;have KD:=hideK (low_keep (show Below w10.heap.size w10 _ from (by first|exact KF.out|exact K0.out)) hb);have hSD:=CY.out _ KD.out;clear hb))
      all_goals (try go_wp2_with fail)
      all_goals go_ret
      all_goals (refine⟨by rfl,?_⟩;first|exact low_keep B10.out KF.out|exact low_keep B10.out KD.out)
     ·have hF:F=false:=by rw[HFF.out];exact decide_eq_false hdr
      have HDL:Hid (¬d.toList=r.toList):=fun e=>hdr (ByteArray.ext (Array.toList_inj.1 (by rw[<-Lib.toList_data,<-Lib.toList_data];exact e)))
      subst hF
      go_upto_region 17 with fail
      have K0:Hid (Below w10.heap.size w10 w10.drew):=(Below.refl _ _).drew
      have hS0:=CY.out _ K0.out
      go_region_held3 (fun W=>W.cell? ⟨g,0,none⟩=some (.int .i64 z)/\W.cell? ⟨g,1,none⟩=some (.int .i64 b)/\W.cell? ⟨g,2,none⟩=some (.string r)/\W.cell? ⟨bb,off+m,none⟩=some (.string xl)) (assumption) (first|(go_at_call 12;(with_reducible refine(HFJ.out _ ?_).mono ?_);(· first|exact KD.out|exact K0.out);rintro e vF ⟨rfl,hb⟩;have KF:=hideK (low_keep (show Below w10.heap.size w10 _ from (by first|exact KD.out|exact K0.out)) hb);have hSF:=CY.out _ KF.out;clear hb)|(go_at_call 8;(with_reducible refine(HDJ.out _ ?_).mono ?_);(· first|exact KF.out|exact K0.out);rintro e vD ⟨rfl,hb⟩;have KD:=hideK (low_keep (show Below w10.heap.size w10 _ from (by first|exact KF.out|exact K0.out)) hb);have hSD:=CY.out _ KD.out;clear hb))
      all_goals (try go_wp2_with fail)
      all_goals go_ret
      all_goals (refine⟨by first|rfl|(simp;exact HDL.out),?_⟩;first|exact low_keep B10.out KF.out|exact low_keep B10.out KD.out)
end Go.Proofs.YtjfdllgodijibaaGreatDoor.fnWay

