/- Texts put together: PkImpl, PkSpec. -/
import Derived.Test.YtkgjfdanjmnmbaaGreatDoorOz31
import Derived.Test.YtkgjfdanjmnmbaaGreatDoorOz40
import Derived.Test.YtkgjfdanjmnmbaaGreatDoorOz39
import Derived.Test.YtkgjfdanjmnmbaaGreatDoorOz35
import Derived.Test.YtkgjfdanjmnmbaaGreatDoorOz38
import Derived.Deep.RegionHeld3
import Derived.Deep.CutRange
import Derived.Lib.QuietBelow
set_option maxRecDepth 100000
set_option maxHeartbeats 8000000
namespace Go.Proofs.YtkgjfdanjmnmbaaGreatDoor.Pk
open Go.RowKit
open St (Strs IsS)
open In (Ints IsI OwnI)
open Hf (up up_length)
open Bi (above putR packR)
open Go.Proofs.YtkgjfdanjmnmbaaGreatDoor.So (bwtT bwtA bwtC sOut bwt_impl)
open Fr (frontR frontOf_impl frontR_len)
open Ze (zerosR zerosOf_impl)
open Se (sealV seal_impl)
theorem ints_keep {w w':World} {a:Option Addr} {l:List Int} (h:Ints w w.heap.size a l) (hb:Below w.heap.size w w'):Ints w' w'.heap.size a l:=(h.below hb).mono hb.size
theorem lt_blk {w:World} {g:Nat} {x:Obj} (h:w.heap[g]? = some x):g<w.heap.size:=(Array.getElem?_eq_some_iff.1 h).1
theorem blk_keep {w w':World} {g:Nat} {x:Obj} (h:w.heap[g]? = some x) (hb:Below w.heap.size w w'):w'.heap[g]? = some x:=(hb.block g (lt_blk h)).trans h
theorem low_keep {w0 w w':World} (h:Below w0.heap.size w0 w) (hb:Below w.heap.size w w'):Below w0.heap.size w0 w':=h.trans (hb.mono h.size)
theorem ints_four {W:World} {g:Nat} {a b c d:Int} {t:TypeId} (h:W.heap[g]? = some (.cells #[.int .i64 a,.int .i64 b,.int .i64 c,.int .i64 d] t (0,0))):Ints W W.heap.size (some ⟨g,0,none⟩) [a,b,c,d] :=
 .inr ⟨g,0,rfl,lt_blk h,fun j hj=>by
  rw[Nat.zero_add,cell_of_row W g j _ _ _ h]
  match j,hj with
  |0,_=>rfl
  |1,_=>rfl
  |2,_=>rfl
  |3,_=>rfl⟩
theorem strs_four {W:World} {g:Nat} {a b c d:ByteArray} {t:TypeId} (h:W.heap[g]? = some (.cells #[.string a,.string b,.string c,.string d] t (0,0))):Strs W W.heap.size (some ⟨g,0,none⟩) [a,b,c,d] :=
 .inr ⟨g,0,rfl,lt_blk h,fun j hj=>by
  rw[Nat.zero_add,cell_of_row W g j _ _ _ h]
  match j,hj with
  |0,_=>rfl
  |1,_=>rfl
  |2,_=>rfl
  |3,_=>rfl⟩
theorem strs_two {W:World} {g:Nat} {a b:ByteArray} {t:TypeId} (h:W.heap[g]? = some (.cells #[.string a,.string b] t (0,0))):Strs W W.heap.size (some ⟨g,0,none⟩) [a,b] :=
 .inr ⟨g,0,rfl,lt_blk h,fun j hj=>by
  rw[Nat.zero_add,cell_of_row W g j _ _ _ h]
  match j,hj with
  |0,_=>rfl
  |1,_=>rfl⟩
theorem cat_two (b:ByteArray):cat [⟨#[0]⟩,b]=0 :: b.data.toList:=by
 unfold cat
 simp
theorem cat_short (b:ByteArray):cat [⟨#[1]⟩,⟨(numsL (headS b)).toArray⟩,⟨(numsL (rowT (lenS b) 257)).toArray⟩,bitsS b]=shortL b:=by
 unfold cat shortL
 simp
theorem packR_size (t:ByteArray) (h:t.size<=4800):(packR t).size<=4800:=by
 unfold packR
 split
 ·decide
 ·unfold Bi.packV
  rw[Sh.strF_size]
  omega
theorem bitsS_size (b:ByteArray):(bitsS b).size<=4800:=packR_size _ (bits_size b)
theorem bwtA_le (b:ByteArray) (h:b.size<=48):bwtA b<=48:=by
 unfold bwtA
 rw[if_pos h]
 exact Nat.le_trans (So.atK_le _ _) h
theorem headS_mem (b:ByteArray) (h:b.size<=48):∀ x∈headS b,-9223372036854775808<=x/\x<=9223372036854775807:=by
 have h1:=bwtA_le b h
 have h2:=symS_len b
 have h3:=Bi.above_le (up (lenS b))
 rw[up_length,(lenS_facts b).1]at h3
 intro x hx
 unfold headS at hx
 simp only[List.mem_cons,List.not_mem_nil,or_false]at hx
 omega
theorem shortL_le (b:ByteArray):(shortL b).length<=20000:=by
 have h1:=numsL_le (headS b)
 have h2:=numsL_le (rowT (lenS b) 257)
 have h3:=rowT_length (lenS b) 257
 have h4:=bitsS_size b
 have h5:(bitsS b).data.toList.length=(bitsS b).size:=by simp
 have h6:(headS b).length=4:=rfl
 unfold shortL
 rw[List.length_append,List.length_append,List.length_append]
 simp only[List.length_cons,List.length_nil]
 omega
theorem short_impl (b:ByteArray) (w:World) (hb:b.size<=48) :
  Calls Tryz.prog 71 #[.string b] w fun e w'=>e=.returned (.string (shortV b))/\Below w.heap.size w w':=by
 obtain⟨hf1,hf2,_,_⟩:=lenS_facts b
 have HSM:=hideP (symS_mem b)
 have hsl:=symS_len b
 have C1:Hid (∀ W,Calls Tryz.prog 93 #[.string b] W fun e w'=>e=.returned (.agg #[.string (bwtT b),.int .i64 (bwtA b:Nat),.int .i64 (bwtC b:Nat)])/\Below W.heap.size W w'):=fun W=>bwt_impl b W (by omega)
 have C2:Hid (∀ W,Calls Tryz.prog 95 #[.string (bwtT b)] W fun e w'=>∃ v,e=.returned v/\OwnI w' W.heap.size v (frontR (bwtT b).data.toList)/\Below W.heap.size W w'):=fun W=>frontOf_impl (bwtT b) W (by
  have:(bwtT b).size<=48:=by
   by_cases h:b.size<=48
   ·unfold bwtT
    rw[if_pos h,Sh.strF_size]
    exact h
   ·omega
  omega)
 have C3:Hid (∀ W base v,OwnI W base v (frontR (bwtT b).data.toList)->Calls Tryz.prog 94 #[v] W fun e w'=>∃ v,e=.returned v/\OwnI w' W.heap.size v (symS b)/\Below W.heap.size W w'):=fun W base v h=>by
  obtain⟨x,c,rfl,_,hi⟩:=h.ints
  exact zerosOf_impl _ x c W.heap.size W hi (Nat.le_refl _) (by have:=frontR_len (bwtT b).data.toList;omega)
 obtain⟨n,hn⟩:∃ n,n=(symS b).length:=⟨_,rfl⟩
 have HN:=hideP hn
 have C4:Hid (∀ W x c,Ints W W.heap.size x (symS b)->Calls Tryz.prog 97 #[.slice x n c] W fun e w'=>e=.returned (.slice (some ⟨W.heap.size,0,none⟩) 257 257)/\Ints w' w'.heap.size (some ⟨W.heap.size,0,none⟩) (up (countsN (symS b)))/\Below W.heap.size W w'):=fun W x c h=>by
  refine(counts_impl (symS b) x c n W h hn.symm (by omega) HSM.out).mono ?_
  rintro e w' ⟨rfl,hi,hb⟩
  exact⟨rfl,hi.ints hi.lt,hb⟩
 have C5:Hid (∀ W x c,Ints W W.heap.size x (up (countsN (symS b)))->Calls Tryz.prog 96 #[.slice x 257 c] W fun e w'=>∃ a c',e=.returned (.slice a 257 c')/\Ints w' w'.heap.size a (up (lenS b))/\Below W.heap.size W w'):=fun W x c h=>by
  have:=Hf.lengths_impl x c (up (countsN (symS b))) W h (by rw[up_length,countsN_length];decide)
  rw[up_length,countsN_length,lens_counts]at this
  refine this.mono ?_
  rintro e w' ⟨v,rfl,ho,hb⟩
  obtain⟨a,c',rfl,_,hi⟩:=ho.ints
  rw[up_length,hf1]
  exact⟨a,c',rfl,hi,hb⟩
 have C6:Hid (∀ W x c,Ints W W.heap.size x (up (lenS b))->Calls Tryz.prog 98 #[.slice x 257 c] W fun e w'=>e=.returned (.int .i64 (above (up (lenS b)):Nat))/\w'=W):=fun W x c h=>by
  have:=Bi.count_impl (up (lenS b)) x c W.heap.size W h (by rw[up_length,hf1];decide)
  rw[up_length,hf1]at this
  exact this
 have C7:Hid (∀ W x c y d,Ints W W.heap.size x (up (lenS b))->Ints W W.heap.size y (symS b)->Calls Tryz.prog 100 #[.slice x 257 c,.slice y n d] W fun e w'=>e=.returned (.string (putR (up (lenS b)) (symS b)))/\Below W.heap.size W w'):=fun W x c y d h1 h2=>by
  have:=Bi.put_impl (up (lenS b)) (symS b) x y c d W h1 h2 (by rw[up_length,hf1];decide) (by omega)
  rw[up_length,hf1,<-hn]at this
  exact this
 have C8:Hid (∀ W,Calls Tryz.prog 99 #[.string (putR (up (lenS b)) (symS b))] W fun e w'=>e=.returned (.string (bitsS b))/\Below W.heap.size W w'):=fun W=>Bi.pack_impl _ W (by have:=bits_size b;omega)
 have C9:Hid (∀ W g t,W.heap[g]? = some (.cells #[.int .i64 (b.size:Nat),.int .i64 (bwtA b:Nat),.int .i64 n,.int .i64 (above (up (lenS b)):Nat)] t (0,0))->Calls Tryz.prog 101 #[.slice (some ⟨g,0,none⟩) 4 4] W fun e w'=>e=.returned (.string ⟨(numsL (headS b)).toArray⟩)/\Below W.heap.size W w'):=fun W g t h=>by
  have h':=ints_four h
  rw[hn]at h'
  exact nums_any (headS b) (some ⟨g,0,none⟩) 4 4 W h' rfl (by decide) (headS_mem b hb)
 have C10:Hid (∀ W x c,Ints W W.heap.size x (up (lenS b))->Calls Tryz.prog 102 #[.slice x 257 c] W fun e w'=>e=.returned (.string ⟨(numsL (rowT (lenS b) 257)).toArray⟩)/\Below W.heap.size W w'):=fun W x c h=>table_impl (lenS b) x c 257 W h hf1 (by decide) hf2
 have C11:Hid (∀ W g t,W.heap[g]? = some (.cells #[.string ⟨#[1]⟩,.string ⟨(numsL (headS b)).toArray⟩,.string ⟨(numsL (rowT (lenS b) 257)).toArray⟩,.string (bitsS b)] t (0,0))->Calls Tryz.prog 33 #[.slice (some ⟨g,0,none⟩) 4 4] W fun e w'=>e=.returned (.string (shortV b))/\Below W.heap.size W w'):=fun W g t h=>by
  have:=join_any _ (some ⟨g,0,none⟩) 4 4 W (strs_four h) rfl (by decide) (by rw[cat_short];have:=shortL_le b;omega)
  rw[cat_short]at this
  exact this
 rw[<-hn]at hsl
 have hn':=hn
 clear hn hn' hf1 hf2 HSM
 generalize bwtC b=kC at C1
 generalize shortV b=R at C11 ⊢
 generalize (⟨(numsL (headS b)).toArray⟩:ByteArray)=T1 at C9 C11
 generalize (⟨(numsL (rowT (lenS b) 257)).toArray⟩:ByteArray)=T2 at C10 C11
 generalize bitsS b=T3 at C8 C11
 generalize putR (up (lenS b)) (symS b)=T0 at C7 C8
 generalize above (up (lenS b))=kV at C6 C9
 generalize bwtA b=kA at C1 C9
 generalize bwtT b=kT at C1 C2 C3
 go_enter Tryz.func71,Tryz.ntmps71
 go_wp2_with fail
 refine(C1.out _).mono ?_
 rintro e w1 ⟨rfl,hb1⟩
 have B1:=hideP hb1
 clear hb1
 go_wp2_with fail
 have X2:Hid ((w1.alloc (.cells #[.string kT,.int .i64 (kA:Nat),.int .i64 (kC:Nat)] 151)).heap[w1.heap.size]? = some (.cells #[.string kT,.int .i64 (kA:Nat),.int .i64 (kC:Nat)] 151 (0,0))):=heap_alloc_new w1 _
 have B2:=hideP (B1.out.alloc B1.out.size (.cells #[.string kT,.int .i64 (kA:Nat),.int .i64 (kC:Nat)] 151))
 generalize w1.alloc (.cells #[.string kT,.int .i64 (kA:Nat),.int .i64 (kC:Nat)] 151)=w2 at X2 B2 ⊢
 generalize w1.heap.size=gx at X2 ⊢
 clear B1
 refine(C2.out _).mono ?_
 rintro e w3 ⟨v3,rfl,ho3,hb3⟩
 have X3:=hideP (blk_keep X2.out hb3)
 have B3:=hideP (low_keep B2.out hb3)
 have O3:=hideP ho3
 clear ho3 hb3 X2 B2
 go_wp2_with fail
 refine(C3.out _ _ _ O3.out).mono ?_
 rintro e w4 ⟨v4,rfl,ho4,hb4⟩
 have X4:=hideP (blk_keep X3.out hb4)
 have B4:=hideP (low_keep B3.out hb4)
 obtain⟨ay,cy,hv4,_,hi4⟩:=ho4.ints
 rw[<-HN.out]at hv4
 subst hv4
 have Y4:=hideP hi4
 clear ho4 hb4 X3 B3 O3 hi4
 go_wp2_with fail
 refine(C4.out _ _ _ Y4.out).mono ?_
 rintro e w5 ⟨rfl,hi5,hb5⟩
 have X5:=hideP (blk_keep X4.out hb5)
 have B5:=hideP (low_keep B4.out hb5)
 have Y5:=hideP (ints_keep Y4.out hb5)
 have Z5:=hideP hi5
 clear hi5 hb5 X4 B4 Y4
 go_wp2_with fail
 refine(C5.out _ _ _ Z5.out).mono ?_
 rintro e w6 ⟨az,cz,rfl,hi6,hb6⟩
 have X6:=hideP (blk_keep X5.out hb6)
 have B6:=hideP (low_keep B5.out hb6)
 have Y6:=hideP (ints_keep Y5.out hb6)
 have Z6:=hideP hi6
 clear hi6 hb6 X5 B5 Y5 Z5
 have K0:Hid (Below w6.heap.size w6 w6.drew):=(Below.refl _ _).drew
 have CX:Hid (∀ W,Below w6.heap.size w6 W->W.cell? ⟨gx,1,none⟩=some (.int .i64 (kA:Nat))):=fun W h=>cell_of_row W gx 1 _ _ _ (blk_keep X6.out h)
 go_upto_region 4 with fail
 go_cut [6] from 17 to 25 (fun s6 wx=>∃ g:Nat,s6=.pointer (some ⟨g,0,none⟩)/\wx.heap[g]? = some (.cells #[.int .i64 (b.size:Nat),.int .i64 (kA:Nat),.int .i64 n,.int .i64 (kV:Nat)] 138 (0,0))/\Below w6.heap.size w6 wx)
 case first =>
  have hS0:=CX.out _ K0.out
  have KA:Hid (∀ o,Below w6.heap.size w6 (w6.drew.alloc o)):=fun o=>(Below.refl _ _).drew.alloc (Nat.le_refl _) o
  have KB:Hid (∀ o,Below w6.heap.size w6 (w6.alloc o).drew):=fun o=>((Below.refl _ _).alloc (Nat.le_refl _) o).drew
  go_region_held3 (fun W=>W.cell? ⟨gx,1,none⟩=some (.int .i64 (kA:Nat))) (first|assumption|exact CX.out _ (KB.out _)|exact CX.out _ (KA.out _)) (first|(go_at_call 98;(with_reducible refine(C6.out _ _ _ ?_).mono ?_);(· first|exact ints_keep Z6.out K0.out|exact ints_keep Z6.out (KB.out _)|exact ints_keep Z6.out (KA.out _));rintro e w7 ⟨rfl,hw7⟩;subst w7))
  all_goals (try go_wp2_with fail)
  all_goals (go_meet;exact⟨w6.heap.size,rfl,heap_alloc_new w6 _,KB.out _⟩)
 case rest =>
  obtain⟨g,rfl,hr,hbc⟩:=hcut
  have G0:=hideP hr
  have Y0:=hideP (ints_keep Y6.out hbc)
  have Z0:=hideP (ints_keep Z6.out hbc)
  have B0:=hideP (low_keep B6.out hbc)
  clear hr hbc CX X6 Y6 Z6 B6 K0
  go_wp2_with fail
  refine(C7.out _ _ _ _ _ Z0.out Y0.out).mono ?_
  rintro e w8 ⟨rfl,hb8⟩
  have G8:=hideP (blk_keep G0.out hb8)
  have Z8:=hideP (ints_keep Z0.out hb8)
  have B8:=hideP (low_keep B0.out hb8)
  clear hb8 G0 Y0 Z0 B0
  go_wp2_with fail
  refine(C8.out _).mono ?_
  rintro e w9 ⟨rfl,hb9⟩
  have G9:=hideP (blk_keep G8.out hb9)
  have Z9:=hideP (ints_keep Z8.out hb9)
  have B9:=hideP (low_keep B8.out hb9)
  clear hb9 G8 Z8 B8
  go_wp2_with fail
  refine(C9.out _ _ _ G9.out).mono ?_
  rintro e w10 ⟨rfl,hb10⟩
  have Z10:=hideP (ints_keep Z9.out hb10)
  have B10:=hideP (low_keep B9.out hb10)
  clear hb10 G9 Z9 B9
  go_wp2_with fail
  refine(C10.out _ _ _ Z10.out).mono ?_
  rintro e w11 ⟨rfl,hb11⟩
  have B11:=hideP (low_keep B10.out hb11)
  clear hb11 Z10 B10
  go_wp2_with fail
  have H12:Hid ((w11.alloc (.cells #[.string ⟨#[1]⟩,.string T1,.string T2,.string T3] 9)).heap[w11.heap.size]? = some (.cells #[.string ⟨#[1]⟩,.string T1,.string T2,.string T3] 9 (0,0))):=heap_alloc_new w11 _
  have B12:=hideP (B11.out.alloc B11.out.size (.cells #[.string ⟨#[1]⟩,.string T1,.string T2,.string T3] 9))
  refine(C11.out _ _ _ H12.out).mono ?_
  rintro e w13 ⟨rfl,hb13⟩
  have B13:=hideP (low_keep B12.out hb13)
  clear hb13
  go_wp2_with fail
  go_ret
  exact⟨rfl,B13.out⟩
theorem pack_impl (b:ByteArray) (w:World) (hb:b.size<=1048576) :
  Calls Tryz.prog 48 #[.string b] w fun e w'=>e=.returned (.string (packB b))/\Below w.heap.size w w':=by
 by_cases h48:48<b.size
 ·have HR:Hid (packB b=⟨#[]⟩):=if_pos h48
  have h48':(48:Int)<(b.size:Int):=by omega
  rw[HR.out]
  go_enter Tryz.func48,Tryz.ntmps48
  go_wp2_with fail
  go_ret
  exact⟨rfl,Below.refl _ _⟩
 ·have HR:Hid (packB b=sealV (innerV b)):=if_neg h48
  have h48':decide ((48:Int)<(b.size:Int))=false:=by simp;omega
  have HS:=hideP (fun W=>short_impl b W (by omega))
  have HP:Hid (∀ W g t,W.heap[g]? = some (.cells #[.string ⟨#[0]⟩,.string b] t (0,0))->Calls Tryz.prog 33 #[.slice (some ⟨g,0,none⟩) 2 2] W fun e w'=>e=.returned (.string (plainV b))/\Below W.heap.size W w'):=fun W g t h=>by
   have:=join_any _ (some ⟨g,0,none⟩) 2 2 W (strs_two h) rfl (by decide) (by rw[cat_two];simp;omega)
   rw[cat_two]at this
   exact this
  have hps:=plainV_size b
  have hss:(shortV b).size<=20000:=by
   have:=shortL_le b
   show (shortL b).toArray.size<=20000
   rw[List.size_toArray]
   exact this
  have HSE:=hideP (fun (t:ByteArray) (W:World) (h:t.size<=20000)=>seal_impl t W (by unfold maxLen;omega))
  have HIN:Hid (innerV b=if (shortV b).size<(plainV b).size then shortV b else plainV b):=by
   unfold Hid innerV
   rw[hps]
  rw[HR.out,HIN.out]
  clear HR HIN
  generalize shortV b=S at HS hss ⊢
  generalize plainV b=P at HP hps ⊢
  have hpz:P.size<=49:=by omega
  clear hps
  by_cases hlt:S.size<P.size
  ·have hlt':(S.size:Int)<(P.size:Int):=by omega
   rw[if_pos hlt]
   have HSE1:=hideP (fun W=>HSE.out S W hss)
   generalize sealV S=R at HSE1 ⊢
   go_enter Tryz.func48,Tryz.ntmps48
   go_wp2_with fail
   have H1:Hid ((w.alloc (.cells #[.string ⟨#[0]⟩,.string b] 9)).heap[w.heap.size]? = some (.cells #[.string ⟨#[0]⟩,.string b] 9 (0,0))):=heap_alloc_new w _
   have B1:=hideP ((Below.refl w.heap.size w).alloc (Nat.le_refl _) (.cells #[.string ⟨#[0]⟩,.string b] 9))
   refine(HP.out _ _ _ H1.out).mono ?_
   rintro e w2 ⟨rfl,hb2⟩
   have B2:=hideP (low_keep B1.out hb2)
   clear hb2 H1 B1
   go_wp2_with fail
   refine(HS.out _).mono ?_
   rintro e w3 ⟨rfl,hb3⟩
   have B3:=hideP (low_keep B2.out hb3)
   clear hb3 B2
   go_wp2_with fail
   refine(HSE1.out _).mono ?_
   rintro e w4 ⟨rfl,hb4⟩
   have B4:=hideP (low_keep B3.out hb4)
   clear hb4
   go_wp2_with fail
   go_ret
   exact⟨rfl,B4.out⟩
  ·have hlt':decide ((S.size:Int)<(P.size:Int))=false:=by simp;omega
   rw[if_neg hlt]
   have HSE1:=hideP (fun W=>HSE.out P W (by omega))
   generalize sealV P=R at HSE1 ⊢
   go_enter Tryz.func48,Tryz.ntmps48
   go_wp2_with fail
   have H1:Hid ((w.alloc (.cells #[.string ⟨#[0]⟩,.string b] 9)).heap[w.heap.size]? = some (.cells #[.string ⟨#[0]⟩,.string b] 9 (0,0))):=heap_alloc_new w _
   have B1:=hideP ((Below.refl w.heap.size w).alloc (Nat.le_refl _) (.cells #[.string ⟨#[0]⟩,.string b] 9))
   refine(HP.out _ _ _ H1.out).mono ?_
   rintro e w2 ⟨rfl,hb2⟩
   have B2:=hideP (low_keep B1.out hb2)
   clear hb2 H1 B1
   go_wp2_with fail
   refine(HS.out _).mono ?_
   rintro e w3 ⟨rfl,hb3⟩
   have B3:=hideP (low_keep B2.out hb3)
   clear hb3 B2
   go_wp2_with fail
   refine(HSE1.out _).mono ?_
   rintro e w4 ⟨rfl,hb4⟩
   have B4:=hideP (low_keep B3.out hb4)
   clear hb4
   go_wp2_with fail
   go_ret
   exact⟨rfl,B4.out⟩
end Go.Proofs.YtkgjfdanjmnmbaaGreatDoor.Pk


namespace Go.Proofs.YtkgjfdanjmnmbaaGreatDoor.Pk
open Go.RowKit
open In (Ints IsI OwnI made_ints)
open Hf (up up_length up_at up_set incs incs_next incs_length)
open Bi (above putR packR putL)
open Go.Proofs.YtkgjfdanjmnmbaaGreatDoor.So (bwtT bwtA l05Bwt_spec)
open Fr (frontR frontOf_spec frontR_len)
open Ze (zerosR zerosOf_spec)
open Nu (putS)
open Se (sealV seal_spec)
theorem bytes_ext {a b:ByteArray} (h:a.data.toList=b.data.toList):a=b:=ByteArray.ext (by rw[<-Array.toArray_toList (xs:=a.data),h,Array.toArray_toList])
def tabB (d:List Nat):Nat->ByteArray
 |0=>⟨#[]⟩
 |k+1=>if 0<d.getD k 0 then tabB d k++putS (k:Int)++putS ((d.getD k 0:Nat):Int) else tabB d k
theorem numsL_append (l m:List Int):numsL (l++m)=numsL l++numsL m:=by
 unfold numsL
 rw[List.flatMap_append]
theorem tabB_list (d:List Nat):∀ k,(tabB d k).data.toList=numsL (rowT d k)
 |0=>rfl
 |k+1=>by
  have ih:=tabB_list d k
  rw[tabB,rowT]
  split
  ·rw[numsL_append,<-ih]
   unfold numsL
   simp[ByteArray.data_append]
  ·exact ih
theorem tabB_size (d:List Nat) (k:Nat):(tabB d k).size<=20*k:=by
 have h1:(tabB d k).size=(tabB d k).data.toList.length:=by simp
 rw[h1,tabB_list]
 have h2:=numsL_le (rowT d k)
 have h3:=rowT_length d k
 omega
theorem short_eq (b:ByteArray):⟨#[1]⟩++(putS (b.size:Int)++putS ((bwtA b:Nat):Int)++putS ((symS b).length:Int)++putS ((above (up (lenS b)):Nat):Int))++tabB (lenS b) 257++bitsS b=shortV b:=by
 refine bytes_ext ?_
 show _=(shortL b).toArray.toList
 unfold shortL headS
 rw[<-tabB_list]
 unfold numsL
 simp[ByteArray.data_append]
theorem plain_eq (b:ByteArray):⟨#[0]⟩++b=plainV b:=by
 refine bytes_ext ?_
 show _=(0 :: b.data.toList).toArray.toList
 simp[ByteArray.data_append]
theorem long_spec (b:ByteArray) (w:World) (hb:b.size<=48) :
  Calls Tryz.prog 114 #[.string b] w fun e w'=>e=.returned (.string (shortV b))/\Below w.heap.size w w':=by
 obtain⟨i0,hi,hz0,hz1,hz2⟩:=info_parts In.Tryz.infoI2
 obtain⟨hf1,hf2,_,_⟩:=lenS_facts b
 have HSM:=hideP (symS_mem b)
 have hsl:=symS_len b
 have hba:=bwtA_le b hb
 have hab:=Bi.above_le (up (lenS b))
 rw[up_length,hf1]at hab
 have C1:Hid (∀ W,Calls Tryz.prog 110 #[.string b] W fun e w'=>e=.returned (.tuple #[.string (bwtT b),.int .i64 (bwtA b:Nat)])/\Below W.heap.size W w'):=fun W=>l05Bwt_spec b W hb
 have C2:Hid (∀ W,Calls Tryz.prog 153 #[.string (bwtT b)] W fun e w'=>∃ v,e=.returned v/\OwnI w' W.heap.size v (frontR (bwtT b).data.toList)/\Below W.heap.size W w'):=fun W=>frontOf_spec (bwtT b) W (by
  have:(bwtT b).size<=48:=by
   unfold bwtT
   rw[if_pos hb,Sh.strF_size]
   exact hb
  omega)
 have C3:Hid (∀ W base v,OwnI W base v (frontR (bwtT b).data.toList)->Calls Tryz.prog 152 #[v] W fun e w'=>∃ v,e=.returned v/\OwnI w' W.heap.size v (symS b)/\Below W.heap.size W w'):=fun W base v h=>by
  obtain⟨x,c,rfl,_,hi⟩:=h.ints
  exact zerosOf_spec _ x c W.heap.size W hi (Nat.le_refl _) (by have:=frontR_len (bwtT b).data.toList;omega)
 obtain⟨n,hn⟩:∃ n,n=(symS b).length:=⟨_,rfl⟩
 have HN:=hideP hn
 have HCL:=hideP (counts_le (symS b) HSM.out)
 have HNL:Hid ((Hf.nats (symS b)).length=n):=by unfold Hid Hf.nats;rw[List.length_map,hn]
 have C5:Hid (∀ W g,IsI W g 2 (up (countsN (symS b)))->Calls Tryz.prog 154 #[.slice (some ⟨g,0,none⟩) 257 257] W fun e w'=>∃ a c',e=.returned (.slice a 257 c')/\Ints w' w'.heap.size a (up (lenS b))/\Below W.heap.size W w'):=fun W g h=>by
  refine(Hf.ofS_any (some ⟨g,0,none⟩) 257 257 (countsN (symS b)) W (h.ints h.lt) (countsN_length _) (by decide) (by decide) (fun x hx=>?_)).mono ?_
  ·obtain⟨j,hj,rfl⟩:=List.getElem_of_mem hx
   have h1:=HCL.out (Hf.nats (symS b)).length j
   rw[List.take_length]at h1
   have e:(countsN (symS b)).getD j 0=(countsN (symS b))[j]:=by rw[List.getD_eq_getElem?_getD,List.getElem?_eq_getElem hj];rfl
   have h3:(countsN (symS b)).getD j 0<=(symS b).length:=h1
   omega
  ·rintro e w' ⟨v,rfl,ho,hb⟩
   obtain⟨a,c',rfl,_,hi⟩:=ho.ints
   refine⟨a,c',?_,hi,hb⟩
   rw[up_length]
   show Ending.returned (.slice a (lenS b).length c')=_
   rw[hf1]
 have C7:Hid (∀ W x c y d,0<above (up (lenS b))->Ints W W.heap.size x (up (lenS b))->Ints W W.heap.size y (symS b)->Calls Tryz.prog 156 #[.slice x 257 c,.slice y n d] W fun e w'=>e=.returned (.string (putR (up (lenS b)) (symS b)))/\Below W.heap.size W w'):=fun W x c y d h0 h1 h2=>by
  have:=Bi.l04Put_any (up (lenS b)) (symS b) x y c d W h1 h2 (by omega) (lenS_whole b h0) (symS_ok b)
  rw[up_length,hf1,<-hn,<-bits_some b h0]at this
  exact this
 have C8:Hid (∀ W,Calls Tryz.prog 157 #[.string (putR (up (lenS b)) (symS b))] W fun e w'=>e=.returned (.string (bitsS b))/\Below W.heap.size W w'):=fun W=>Bi.pack_spec _ W (by have:=bits_size b;omega)
 have HBN:=hideP (bits_none b)
 have CP:Hid (∀ (x:Int) W,0<=x->x<=1000000->Calls Tryz.prog 155 #[.int .i64 x] W fun e w'=>e=.returned (.string (putS x))/\Below W.heap.size W w'):=fun x W h1 h2=>Nu.put_spec x W (by omega) (by omega)
 have HPS:=hideP putS_size
 have HTS:=hideP (tabB_size (lenS b))
 have HBS:=hideP (bitsS_size b)
 have HEQ:=hideP (short_eq b)
 rw[<-hn]at hsl HEQ
 have HD12:=hideP hf2
 have HDL:=hideP hf1
 have HZ:Hid (up (incs (Hf.zeros 257) ((Hf.nats (symS b)).take 0))=List.replicate 257 0):=by
  unfold Hid
  rw[List.take_zero]
  show up (Hf.zeros 257)=_
  unfold up Hf.zeros
  rw[List.map_replicate]
  rfl
 have HCN:Hid (incs (Hf.zeros 257) ((Hf.nats (symS b)).take n)=countsN (symS b)):=by
  unfold Hid
  rw[List.take_of_length_le (by rw[HNL.out];exact Nat.le_refl _)]
  rfl
 have HNXT:=hideP (fun j (h:j<n)=>incs_next (Hf.zeros 257) (Hf.nats (symS b)) j (by rw[HNL.out];exact h))
 have HNAT:=hideP (fun j (h:j<(symS b).length)=>nats_at (symS b) j h)
 have HABV:=hideP (fun k (h:k<(up (lenS b)).length)=>Bi.above_more (l:=up (lenS b)) h)
 have HAB0:Hid (above ((up (lenS b)).take 0)=0):=rfl
 have HABA:Hid (above ((up (lenS b)).take 257)=above (up (lenS b))):=by
  unfold Hid
  rw[List.take_of_length_le (by rw[up_length,hf1];exact Nat.le_refl _)]
 clear hn hf1 hf2
 generalize shortV b=R at HEQ ⊢
 generalize bitsS b=T3 at C8 HEQ HBS
 generalize putR (up (lenS b)) (symS b)=T0 at C7 C8 HBN
 generalize above (up (lenS b))=kV at C7 HEQ HBN HABA hab
 generalize bwtA b=kA at C1 HEQ hba
 generalize bwtT b=kT at C1 C2 C3
 go_enter Tryz.func114,Tryz.ntmps114
 go_wp2_with fail
 refine(C1.out _).mono ?_
 rintro e w1 ⟨rfl,hb1⟩
 have B1:=hideP hb1
 clear hb1
 go_wp2_with fail
 refine(C2.out _).mono ?_
 rintro e w3 ⟨v3,rfl,ho3,hb3⟩
 have B3:=hideP (low_keep B1.out hb3)
 have O3:=hideP ho3
 clear ho3 hb3 B1
 go_wp2_with fail
 refine(C3.out _ _ _ O3.out).mono ?_
 rintro e w4 ⟨v4,rfl,ho4,hb4⟩
 have B4:=hideP (low_keep B3.out hb4)
 obtain⟨ay,cy,hv4,_,hi4⟩:=ho4.ints
 rw[<-HN.out]at hv4
 subst hv4
 have Y4:=hideP hi4
 have hz4:=B4.out.size
 clear ho4 hb4 B3 O3 hi4 C1 C2 C3
 go_wp2_with (at_make;refine wpList_make_full _ rfl (.const (.int .i64 257)) (.const (.int .i64 257)) 114 rfl w4.heap.size 2 i0 (.int .i64 0) 1 Tryz.underlying114 hi hz0 hz1 .i64 .i64 _ _ 257 rfl rfl (by omega) (by omega) (by rw[hz2];omega) (by unfold maxLen;omega) (Nat.le_refl _) ?_;intro w5 hown hgrow;have HI1:=hideP (made_ints hown);have HB1:=hideP ((Below.refl w4.heap.size w4).grown hgrow (Nat.le_refl _) (by simp));clear hown hgrow)
 go_loopw [7] (fun iv wr=>∃ j:Nat,iv=.int .i64 j/\j<=n/\IsI wr w4.heap.size 2 (up (incs (Hf.zeros 257) ((Hf.nats (symS b)).take j)))/\Below w4.heap.size w4 wr) (fun iv _=>n-(intOf iv).toNat)
 case atStart=>exact⟨0,rfl,Nat.zero_le _,by rw[HZ.out];exact HI1.out,HB1.out⟩
 case round =>
  obtain⟨j,rfl,hj,hij,hbw⟩:=hrel
  have IJ:=hideP hij
  have BW:=hideP hbw
  clear hij hbw
  by_cases hlt:j<n
  ·have hjl:j<(symS b).length:=by rw[<-HN.out];exact hlt
   obtain⟨bb,off,rfl,hbb,hcl⟩:=(Y4.out.below BW.out).some (by omega)
   have ci:=hcl j hjl
   have hx:=HSM.out (symS b)[j] (List.getElem_mem hjl)
   have HNX:=hideP (HNXT.out j hlt)
   rw[HNAT.out j hjl]at HNX
   generalize (symS b)[j]=x at ci hx HNX
   obtain⟨y,rfl⟩:∃ y:Nat,x=y:=⟨x.toNat,by omega⟩
   rw[Int.toNat_natCast]at HNX
   have hlen:y<(incs (Hf.zeros 257) ((Hf.nats (symS b)).take j)).length:=by rw[incs_length,zeros_length];omega
   have cl0:wr.cell? ⟨w4.heap.size,y,none⟩=some (.int .i64 (((incs (Hf.zeros 257) ((Hf.nats (symS b)).take j)).getD y 0:Nat):Int)):=by
    rw[IJ.out.cell (j:=y) (by rw[up_length];exact hlen),up_at _ _ hlen]
   have zl0:=IJ.out.frozen y
   have hdb:=HCL.out j y
   obtain⟨dv,hdv⟩:∃ dv,dv=(incs (Hf.zeros 257) ((Hf.nats (symS b)).take j)).getD y 0:=⟨_,rfl⟩
   have HDV:=hideP hdv
   rw[<-hdv]at cl0 hdb
   have hdv2:dv<=400:=by have:=HN.out;omega
   have hy:(y:Int)<257:=by omega
   have hjn:(j:Int)<n:=by omega
   clear hdv hcl hjl hlen hdb
   go_wp2_with fail
   go_region
   all_goals (
    go_wp2_with fail
    go_roundw
    case rel =>
     refine⟨j+1,by go_num,by omega,?_,(BW.out.setCell (by simp) _).drew⟩
     have:=IJ.out.set y ((dv:Int)+1)
     rw[HNX.out,<-HDV.out,<-up_set]
     exact this
    case measure=>simp[intOf];omega)
  ·obtain rfl:j=n:=by omega
   have IE:Hid (IsI wr w4.heap.size 2 (up (countsN (symS b)))):=by
    have:=IJ.out
    rw[HCN.out]at this
    exact this
   have YE:=hideP (ints_keep Y4.out BW.out)
   have BE:=hideP (low_keep B4.out BW.out)
   generalize w4.heap.size=gc at IE ⊢
   clear IJ BW Y4 B4 HI1 HB1 HNXT HNAT HCL HZ HCN
   go_wp2_with fail
   refine(C5.out _ _ IE.out).mono ?_
   rintro e w6 ⟨az,cz,rfl,hi6,hb6⟩
   have B6:=hideP (low_keep BE.out hb6)
   have Y6:=hideP (ints_keep YE.out hb6)
   have Z6:=hideP hi6
   clear hi6 hb6 IE YE BE
   go_wp2_with fail
   go_loopw [11,9,10] (fun iv tv mv wr=>∃ k:Nat,iv=.int .i64 k/\k<=257/\tv=.string (tabB (lenS b) k)/\mv=.int .i64 (above ((up (lenS b)).take k):Nat)/\Below w6.heap.size w6 wr) (fun iv _ _ _=>257-(intOf iv).toNat)
   case atStart=>exact⟨0,rfl,Nat.zero_le _,rfl,rfl,Below.refl _ _⟩
   case round =>
    obtain⟨k,rfl,hk,rfl,rfl,hbw⟩:=hrel
    have BW:=hideP hbw
    clear hbw
    by_cases hlt2:k<257
    ·have hkd:k<(lenS b).length:=by rw[HDL.out];exact hlt2
     obtain⟨bb,off,rfl,hbb,hcl⟩:=(Z6.out.below BW.out).some (by rw[up_length];omega)
     have ci:=Hf.up_get hcl k hkd
     have hg:(lenS b).getD k 0=(lenS b)[k]:=by rw[List.getD_eq_getElem?_getD,List.getElem?_eq_getElem hkd];rfl
     have hx:=HD12.out k
     have HNX:Hid (tabB (lenS b) (k+1)=if 0<(lenS b).getD k 0 then tabB (lenS b) k++putS (k:Int)++putS (((lenS b).getD k 0:Nat):Int) else tabB (lenS b) k):=rfl
     have HAX:=hideP (HABV.out k (by rw[up_length];exact hkd))
     rw[up_at _ _ hkd]at HAX
     have hts:=HTS.out k
     have hac:above ((up (lenS b)).take k)<=257:=by
      have:=Bi.above_le ((up (lenS b)).take k)
      rw[List.length_take]at this
      omega
     have HCI:=hideP (fun (W:World) (h:Below wr.heap.size wr W)=>(h.cell (p:=⟨bb,off+k,none⟩) (show bb<wr.heap.size by have:=BW.out.size;omega)).trans ci)
     rw[<-hg]at ci HCI
     generalize (lenS b).getD k 0=x at ci hx HNX HAX HCI hg
     generalize tabB (lenS b) k=T at HNX hts ⊢
     generalize above ((up (lenS b)).take k)=m at HAX hac ⊢
     clear hg hcl hkd
     by_cases h0:0<x
     ·have h0':(0:Int)<x:=by omega
      rw[if_pos h0]at HNX
      rw[if_pos h0']at HAX
      have p1:=HPS.out (k:Int)
      have p2:=HPS.out (x:Int)
      have HP1:=hideP (fun W=>CP.out (k:Int) W (by omega) (by omega))
      have HP2:=hideP (fun W=>CP.out (x:Int) W (by omega) (by omega))
      generalize putS (k:Int)=P1 at HP1 HNX p1
      generalize putS (x:Int)=P2 at HP2 HNX p2
      have n1:¬9223372036854775807<T.size+P1.size:=by omega
      have n2:¬9223372036854775807<T.size+P1.size+P2.size:=by omega
      have hkk:(k:Int)<257:=by omega
      have gc:=fun d os=>cell_regrown (w:=wr) ci d os
      have mixed:=So.mixed
      go_wp2_with fail
      clear ci
      refine wp_region_quiet_below (by assumption) (by kernel_rfl) ?_
      repeat (quiet_step (first|(go_at_call_of 155 (Value.int IntKind.i64 (k:Int));exact Calls.regrown_of (HP1.out _))|(go_at_call_of 155 (Value.int IntKind.i64 (x:Int));exact Calls.regrown_of (HP2.out _))))
      refine wpQuiet_nil ?_
      intro _ hw'
      obtain⟨⟨dq,osq⟩,hw''⟩:=hw'
      subst hw''
      have KQ:=hideP (below_regrown wr dq osq)
      generalize Go.Sort.grow (redrawn wr dq) osq=w8 at KQ ⊢
      clear gc
      go_wp2_with fail
      go_roundw
      case rel=>exact⟨k+1,by go_num,by omega,by rw[HNX.out],by rw[HAX.out];go_num,low_keep BW.out KQ.out⟩
      case measure=>simp[intOf];omega
     ·have h0':x=0:=by omega
      subst h0'
      rw[if_neg h0]at HNX
      rw[if_neg (by decide)]at HAX
      go_wp2_with fail
      go_roundw
      case rel=>exact⟨k+1,by go_num,by omega,by rw[HNX.out],by rw[HAX.out];rfl,BW.out⟩
      case measure=>simp[intOf];omega
    ·obtain rfl:k=257:=by omega
     have Y7:=hideP (ints_keep Y6.out BW.out)
     have Z7:=hideP (ints_keep Z6.out BW.out)
     have B7:=hideP (low_keep B6.out BW.out)
     have hts:=HTS.out 257
     rw[HABA.out]
     clear Y6 Z6 B6 BW HABV HAB0 HABA HTS HD12
     generalize tabB (lenS b) 257=T at HEQ hts ⊢
     have p1:=HPS.out (b.size:Int)
     have p2:=HPS.out (kA:Int)
     have p3:=HPS.out (j:Int)
     have p4:=HPS.out (kV:Int)
     have HP1:=hideP (fun W=>CP.out (b.size:Int) W (by omega) (by omega))
     have HP2:=hideP (fun W=>CP.out (kA:Int) W (by omega) (by omega))
     have HP3:=hideP (fun W=>CP.out (j:Int) W (by omega) (by omega))
     have HP4:=hideP (fun W=>CP.out (kV:Int) W (by omega) (by omega))
     generalize putS (b.size:Int)=P1 at HP1 HEQ p1
     generalize putS (kA:Int)=P2 at HP2 HEQ p2
     generalize putS (j:Int)=P3 at HP3 HEQ p3
     generalize putS (kV:Int)=P4 at HP4 HEQ p4
     have q1:(P1++P2).size<=20:=by rw[ByteArray.size_append];omega
     have q2:(P1++P2++P3).size<=30:=by rw[ByteArray.size_append];omega
     have q3:(P1++P2++P3++P4).size<=40:=by rw[ByteArray.size_append];omega
     have q4:((⟨#[1]⟩:ByteArray)++(P1++P2++P3++P4)).size<=41:=by rw[ByteArray.size_append];have:(⟨#[1]⟩:ByteArray).size=1:=rfl;omega
     have q5:((⟨#[1]⟩:ByteArray)++(P1++P2++P3++P4)++T).size<=5181:=by rw[ByteArray.size_append];omega
     have hbs:=HBS.out
     have r1:P1.size+P2.size<=9223372036854775807:=by omega
     have r2:(P1++P2).size+P3.size<=9223372036854775807:=by omega
     have r3:(P1++P2++P3).size+P4.size<=9223372036854775807:=by omega
     have r4:(⟨#[1]⟩:ByteArray).size+(P1++P2++P3++P4).size<=9223372036854775807:=by have:(⟨#[1]⟩:ByteArray).size=1:=rfl;omega
     have r5:((⟨#[1]⟩:ByteArray)++(P1++P2++P3++P4)).size+T.size<=9223372036854775807:=by omega
     have r6:((⟨#[1]⟩:ByteArray)++(P1++P2++P3++P4)++T).size+T3.size<=9223372036854775807:=by omega
     go_wp2_with fail
     refine(HP1.out _).mono ?_
     rintro e w91 ⟨rfl,hb91⟩
     have B91:=hideP (low_keep B7.out hb91)
     have Y8:=hideP (ints_keep Y7.out hb91)
     have Z8:=hideP (ints_keep Z7.out hb91)
     clear hb91 Y7 Z7 B7
     go_wp2_with fail
     refine(HP2.out _).mono ?_
     rintro e w92 ⟨rfl,hb92⟩
     have B92:=hideP (low_keep B91.out hb92)
     have Y9:=hideP (ints_keep Y8.out hb92)
     have Z9:=hideP (ints_keep Z8.out hb92)
     clear hb92 Y8 Z8 B91
     go_wp2_with fail
     refine(HP3.out _).mono ?_
     rintro e w93 ⟨rfl,hb93⟩
     have B93:=hideP (low_keep B92.out hb93)
     have Y10:=hideP (ints_keep Y9.out hb93)
     have Z10:=hideP (ints_keep Z9.out hb93)
     clear hb93 Y9 Z9 B92
     go_wp2_with fail
     refine(HP4.out _).mono ?_
     rintro e w94 ⟨rfl,hb94⟩
     have B94:=hideP (low_keep B93.out hb94)
     have Y11:=hideP (ints_keep Y10.out hb94)
     have Z11:=hideP (ints_keep Z10.out hb94)
     clear hb94 Y10 Z10 B93
     by_cases hV:0<kV
     ·have hV':(0:Int)<kV:=by omega
      go_wp2_with fail
      refine(C7.out _ _ _ _ _ hV Z11.out Y11.out).mono ?_
      rintro e w95 ⟨rfl,hb95⟩
      have B95:=hideP (low_keep B94.out hb95)
      clear hb95
      go_wp2_with fail
      refine(C8.out _).mono ?_
      rintro e w96 ⟨rfl,hb96⟩
      have B96:=hideP (low_keep B95.out hb96)
      clear hb96
      go_wp2_with fail
      go_ret
      exact⟨by rw[<-HEQ.out];rfl,B96.out⟩
     ·obtain rfl:kV=0:=by omega
      obtain rfl:=HBN.out rfl
      have B95:=hideP B94.out
      go_wp2_with fail
      refine(C8.out _).mono ?_
      rintro e w96 ⟨rfl,hb96⟩
      have B96:=hideP (low_keep B95.out hb96)
      clear hb96
      go_wp2_with fail
      go_ret
      exact⟨by rw[<-HEQ.out];rfl,B96.out⟩
theorem pack_l06 (b:ByteArray) (w:World) (hb:b.size<=48) :
  Calls Tryz.prog 82 #[.string b] w fun e w'=>e=.returned (.string (packB b))/\Below w.heap.size w w':=by
 have HR:Hid (packB b=sealV (innerV b)):=if_neg (by omega)
 have HL:=hideP (fun W=>long_spec b W hb)
 have hss:(shortV b).size<=20000:=by
  have:=shortL_le b
  show (shortL b).toArray.size<=20000
  rw[List.size_toArray]
  exact this
 have HSE:=hideP (fun (t:ByteArray) (W:World) (h:t.size<=20000)=>seal_spec t W (by unfold maxLen;omega))
 have HPE:=hideP (plain_eq b)
 have hps:=plainV_size b
 have HIN:Hid (innerV b=if (shortV b).size<b.size+1 then shortV b else plainV b):=rfl
 rw[HR.out,HIN.out]
 clear HR HIN
 generalize shortV b=S at HL hss ⊢
 generalize plainV b=P at HPE hps ⊢
 by_cases hlt:S.size<b.size+1
 ·have hlt':¬(b.size:Int)+1<=(S.size:Int):=by omega
  have hlt2:decide ((b.size:Int)+1<=(S.size:Int))=false:=decide_eq_false hlt'
  rw[if_pos hlt]
  have HSE1:=hideP (fun W=>HSE.out S W hss)
  generalize sealV S=R at HSE1 ⊢
  go_enter Tryz.func82,Tryz.ntmps82
  go_wp2_with fail
  refine(HL.out _).mono ?_
  rintro e w1 ⟨rfl,hb1⟩
  have B1:=hideP hb1
  clear hb1
  go_wp2_with fail
  refine(HSE1.out _).mono ?_
  rintro e w2 ⟨rfl,hb2⟩
  have B2:=hideP (low_keep B1.out hb2)
  clear hb2
  go_wp2_with fail
  go_ret
  exact⟨rfl,B2.out⟩
 ·have hlt':(b.size:Int)+1<=(S.size:Int):=by omega
  rw[if_neg hlt]
  have HSE1:=hideP (fun W=>HSE.out P W (by omega))
  rw[<-HPE.out]at HSE1 ⊢
  have hz0:(⟨#[0]⟩:ByteArray).size+b.size<=9223372036854775807:=by have:(⟨#[0]⟩:ByteArray).size=1:=rfl;omega
  generalize sealV ((⟨#[0]⟩:ByteArray)++b)=R at HSE1 ⊢
  clear HPE
  go_enter Tryz.func82,Tryz.ntmps82
  go_wp2_with fail
  refine(HL.out _).mono ?_
  rintro e w1 ⟨rfl,hb1⟩
  have B1:=hideP hb1
  clear hb1
  go_wp2_with fail
  refine(HSE1.out _).mono ?_
  rintro e w2 ⟨rfl,hb2⟩
  have B2:=hideP (low_keep B1.out hb2)
  clear hb2
  go_wp2_with fail
  go_ret
  exact⟨rfl,B2.out⟩
theorem pack_spec (b:ByteArray) (w:World) (hb:b.size<=1048576) :
  Calls Tryz.prog 57 #[.string b] w fun e w'=>e=.returned (.string (packB b))/\Below w.heap.size w w':=by
 have HB:=hideP (So.block_spec b w hb)
 by_cases h48:b.size<=48
 ·have HL:=hideP (pack_l06 b w h48)
  rw[decide_eq_true h48]at HB
  generalize packB b=R at HL ⊢
  go_enter Tryz.func57,Tryz.ntmps57
  go_wp2_with fail
  refine HB.out.mono ?_
  rintro e w1 ⟨rfl,hw1⟩
  subst w1
  go_wp2_with fail
  refine HL.out.mono ?_
  rintro e w2 ⟨rfl,hb2⟩
  have B2:=hideP hb2
  clear hb2
  go_wp2_with fail
  go_ret
  exact⟨rfl,B2.out⟩
 ·have HR:Hid (packB b=⟨#[]⟩):=if_pos (by omega)
  rw[decide_eq_false h48]at HB
  rw[HR.out]
  go_enter Tryz.func57,Tryz.ntmps57
  go_wp2_with fail
  refine HB.out.mono ?_
  rintro e w1 ⟨rfl,hw1⟩
  subst w1
  go_wp2_with fail
  go_ret
  exact⟨rfl,Below.refl _ _⟩
end Go.Proofs.YtkgjfdanjmnmbaaGreatDoor.Pk

