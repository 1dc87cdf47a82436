import Derived.Test.YtaejgfdkfcmjeaaGreatDoorRows
import Derived.MakeChecks
import Derived.LaidLaws
import Derived.LaidHandle
import Derived.Test.YtaejgfdkfcmjeaaGreatDoorMz44
set_option maxRecDepth 100000
set_option maxHeartbeats 8000000
namespace Go.Proofs.YtaejgfdkfcmjeaaGreatDoor
open Go.RowKit
open Go.Proofs.Tryz
namespace Up
theorem gNoBlock:prog.globalNamed "loop.example/g00550/impl.errNoBlock"=some 0:=by kernel_rfl
theorem tNoBlock:(prog.globals[0]?).map (·.type)=some 85:=by kernel_rfl
theorem cellsErrS:prog.cellsOf 278=1:=by kernel_rfl
theorem cellsStr:prog.cellsOf 9=1:=by kernel_rfl
theorem starErr: "*"++ "errors.errorString"= "*errors.errorString":=by decide
theorem rowErr (u:TypeId) (h:prog.typeName? 3 u=some "*errors.errorString"):u=258 :=
 typeName_ptr_named (nm:= "errors.errorString") (by rw[starErr];kernel_rfl) (by kernel_rfl) (by decide) u (by rw[starErr];exact h)
theorem trodVars_length {H:Type} {enc:TypeId × Value->H} {P:Program} {w:World} {sp:Nat->Bool}:∀ {ns:List String} {gs:List (DataW H)} {ps:List MemPlace},DataW.TrodVars enc P w sp ns gs ps->gs.length=ns.length
 |[],[],_,_=>rfl
 |[],_ :: _,_,h=>h.elim
 |_ :: _,[],_,h=>h.elim
 |n :: ns,d :: ds,ps,h=>by
  obtain⟨g,t,cs,fuel,p,q,h1,h2,h3,h4,hs,e⟩:=h
  show ds.length+1=ns.length+1
  rw[trodVars_length hs]
theorem list3 {α:Type} {l:List α} (h:l.length=3):∃ a b c,l=[a,b,c]:=by
 match l,h with
 |[a,b,c],_=>exact⟨a,b,c,rfl⟩
theorem glob_of_met {W:World} (h:laidMet prog [("loop.example/g00550/impl.errNoBlock",Rows.laid_loop_example_g00550_impl_errNoBlock)] W):∃ a:Addr,Glob W (.iface 258 (.pointer (some a))):=by
 obtain⟨ps,⟨g0,t0,cs0,f0,p0,q0,hg0,ht0,hv0,hd0,hq0,e0⟩,hnd,hrows⟩:=h;obtain rfl:=Option.some.inj (gNoBlock.symm.trans hg0);obtain rfl:=Option.some.inj (tNoBlock.symm.trans ht0);have hq':q0=[]:=hq0;subst hq';subst e0;obtain⟨l0⟩:=cs0
 have ok0:∀ u v,l0=[.iface u v]->Value.okWide prog W .any 0 u v:=fun u v e=>by
  subst e;exact(hrows 0 0 (by simp[MemPlace.row])).2 u v (by simpa using World.var?_cell hg0 hv0 0)
 obtain⟨a0,s0,rfl,hc0,hs0,hz0,rfl⟩:=errorString_of_trod underlying85 rowErr underlying258 underlying278 rfl rfl underlying9 cellsErrS cellsStr hd0 ok0
 have hc:W.cell? ⟨0,0,none⟩=some (.iface 258 (.pointer (some a0))):=by simpa using World.var?_cell gNoBlock hv0 0
 refine⟨a0,?_,hc⟩
 rcases Nat.lt_or_ge 0 W.heap.size with h|h
 ·exact h
 ·simp[World.cell?,Array.getElem?_eq_none h]at hc
end Up
namespace Pk
open St (OwnS IsS Strs made_strs srow)
open Bk (blocksR blocksR_length blocks_impl blks blks_length cnt)
noncomputable def piecesR (s:ByteArray) (size:Int):List ByteArray:=(blocksR s size).map packB
theorem piecesR_length (s:ByteArray) (size:Int):(piecesR s size).length<=64:=by
 unfold piecesR;rw[List.length_map];exact blocksR_length s size
noncomputable def midP (l:List ByteArray) (k:Nat):List ByteArray:=(l.take k).map packB++List.replicate (l.length-k) ⟨#[]⟩
theorem midP_length (l:List ByteArray) (k:Nat) (h:k<=l.length):(midP l k).length=l.length:=by
 unfold midP;rw[List.length_append,List.length_map,List.length_take,List.length_replicate];omega
theorem midP_next (l:List ByteArray) (k:Nat) (h:k<l.length):(midP l k).set k (packB l[k])=midP l (k+1):=by
 have hl:((l.take k).map packB).length=k:=by rw[List.length_map,List.length_take];omega
 unfold midP;rw[List.set_append,if_neg (by omega),hl,Nat.sub_self,show l.length-k=(l.length-(k+1))+1 by omega,List.replicate_succ,List.set_cons_zero,List.take_add_one,List.getElem?_eq_getElem h,List.map_append,List.append_assoc];rfl
theorem midP_zero (l:List ByteArray):midP l 0=List.replicate l.length ⟨#[]⟩:=by
 unfold midP;simp
theorem midP_all (l:List ByteArray):midP l l.length=l.map packB:=by
 unfold midP;rw[List.take_length,Nat.sub_self,List.replicate_zero,List.append_nil]
theorem owns_of {W:World} {g base n:Nat} {l:List ByteArray} (h:IsS W g 9 l) (hg:base<=g) (hn:l.length=n) (hm:n<=1048576):OwnS W base (.slice (some ⟨g,0,none⟩) n n) l:=by
 subst hn;refine⟨by simp,.inr ⟨g,l.length,srow l,rfl,hg,h,nl,by unfold maxLen;omega,by simp[srow],?_⟩⟩;unfold srow;rw[List.take_of_length_le (by simp)]
theorem strs_some {w:World} {B:Nat} {a:Option Addr} {l:List ByteArray} (h:Strs w B a l) (h0:0<l.length):∃ b off,a=some ⟨b,off,none⟩/\b<B/\∀ j (h:j<l.length),w.cell? ⟨b,off+j,none⟩=some (.string l[j]):=by
 rcases h with h|h
 ·subst h
  simp at h0
 ·exact h
theorem blks_size (s:ByteArray) (k:Nat):∀ n,∀ x∈blks s k n,x.size<=k
 |0,x,h=>absurd h (List.not_mem_nil)
 |n+1,x,h=>by
  rw[blks]at h
  rcases List.mem_append.1 h with h|h
  ·exact blks_size s k n x h
  ·rw[List.mem_singleton.1 h,ByteArray.size_extract]
   omega
theorem blocks_size (s:ByteArray) (size:Int):∀ x∈blocksR s size,x.size<=48:=by
 intro x hx;unfold blocksR at hx
 split at hx
 ·rename_i h
  have h:=of_decide_eq_true h
  have:=blks_size s size.toNat _ x hx
  omega
 ·exact absurd hx (List.not_mem_nil)
theorem pieces_impl (s:ByteArray) (size:Int) (w:World) (hs:s.size<=1048576) :
  Calls prog 29 #[.string s,.int .i64 size] w fun e w'=>∃ v,e=.returned v/\OwnS w' w.heap.size v (piecesR s size)/\Below w.heap.size w w':=by
 obtain⟨i0,hi0,hz0,hz1,hz2⟩:=info_parts St.Tryz.infoS9;have HB:=hideP (blocks_impl s size w hs);have HL:=blocksR_length s size;have HSZ:=hideP (blocks_size s size);have HR:Hid (piecesR s size=(blocksR s size).map packB):=rfl;rw[HR.o];clear HR;generalize blocksR s size=l at HB HL HSZ ⊢;go_enter func29,ntmps29
 go_wp2_with fail
 refine HB.o.mono ?_;rintro e w1 ⟨v1,rfl,ho1,hb1⟩;obtain⟨a,cap,hv,_,hi1⟩:=ho1.strs;obtain⟨n,hn⟩:∃ n,n=l.length:=⟨_,rfl⟩;rw[<-hn]at hv HL;subst hv;have HN:=hideP hn;have S1:=hideP hi1;have B1:=hideP hb1;have hz1':=hb1.size;clear hn hi1 hb1 ho1
 go_wp2_with (at_make;refine wpList_make_full _ rfl (.tmp 13) (.tmp 13) 34 rfl w1.heap.size 9 i0 (.string ⟨#[]⟩) 1 underlying34 hi0 hz0 hz1 .i64 .i64 _ _ n rfl rfl (by simp) (by simp) (by rw[hz2];omega) (by unfold maxLen;omega) nl ?_;intro w2 hown hgrow;have HI2:=hideP (made_strs hown);have HB2:=hideP ((Below.refl w1.heap.size w1).grown hgrow nl (by simp));clear hown hgrow)
 go_loopw [17,7,8] (fun iv _ _ wr=>∃ k:Nat,iv=.int .i64 k/\k<=n/\IsS wr w1.heap.size 9 (midP l k)/\Below w1.heap.size w1 wr) (fun iv _ _ _=>n-(intOf iv).toNat)
 case atStart=>exact⟨0,rfl,Nat.zero_le _,by rw[midP_zero,<-HN.o];exact HI2.o,HB2.o⟩
 case round =>
  obtain⟨k,rfl,hk,hsr,hbw⟩:=hrel;have SR:=hideP hsr;have BW:=hideP hbw;have hzr:=hbw.size;clear hsr hbw;by_cases hlt:k<n
  ·have hkl:k<l.length:=by rw[<-HN.o];exact hlt
   obtain⟨b,off,rfl,hb,hcl⟩:=strs_some (S1.o.below BW.o) (by omega);have ci:=hcl k hkl;have HNX:=hideP (midP_next l k hkl);have hx:=HSZ.o l[k] (List.getElem_mem hkl)
   have hpl:k<(midP l k).length:=by rw[midP_length l k (by omega)];exact hkl
   have HOLD:=hideP (fun (W:World) (hW:IsS W w1.heap.size 9 (midP l k))=>hW.cell hpl);generalize l[k]=x at ci HNX hx;generalize (midP l k)[k]=old at HOLD
   have hkn:(k:Int)<n:=by omega
   have HP:=hideP (fun W=>pack_impl x W (by omega));generalize packB x=px at HP HNX;clear hcl hkl hpl
   go_wp2_with fail
   refine(HP.o _).mono ?_;rintro e w3 ⟨rfl,hb3⟩;have S3:=hideP (SR.o.below hb3 SR.o.lt);have B3:=hideP (BW.o.trans (hb3.mono hzr));have c3:=HOLD.o w3 S3.o;have f3:=S3.o.frozen k;clear hb3
   go_wp2_with fail
   go_roundw
   case rel=>exact⟨k+1,by go_num,by omega,by rw[<-HNX.o];exact S3.o.set k _,B3.o.setCell (by simp) _⟩
   case measure=>simp[intOf];omega
  ·obtain rfl:k=n:=by omega
   have HE:Hid (IsS wr w1.heap.size 9 (l.map packB)):=by
    have:=SR.o
    rw[HN.o,midP_all]at this;exact this
   go_wp2_with fail
   go_ret;exact⟨_,rfl,owns_of HE.o hz1' (by rw[List.length_map];exact HN.o.symm) (by omega),B1.o.trans (BW.o.mono hz1')⟩
end Pk
namespace Pk
open St (OwnS IsS Strs one_newS one_cellS app_one)
open Bk (blocksR blocksR_length fine_any fineB blks cnt cnt_le l06Blocks_any own_noneS)
theorem l06Pieces_any (s:ByteArray) (k:Nat) (w:World) (hf:fineB s.size (k:Int)=true) :
  Calls prog 43 #[.string s,.int .i64 k] w fun e w'=>∃ v,e=.returned v/\OwnS w' w.heap.size v (piecesR s (k:Int))/\Below w.heap.size w w':=by
 obtain⟨i0,hif,hz0,hz1,hz2⟩:=info_parts St.Tryz.infoS9;have h:=of_decide_eq_true hf;have HR:Hid (blocksR s (k:Int)=blks s k (cnt s.size k)):=if_pos hf
 have HB:Hid (Calls prog 71 #[.string s,.int .i64 k] w fun e w'=>∃ v,e=.returned v/\OwnS w' w.heap.size v (blocksR s (k:Int))/\Below w.heap.size w w'):=by
  rw[HR.o];exact l06Blocks_any s k w h.1 (by omega) (by omega) ((cnt_le (by omega)).2 (by omega))
 have HL:=blocksR_length s (k:Int);have HSZ:=hideP (blocks_size s (k:Int));have HP:Hid (piecesR s (k:Int)=(blocksR s (k:Int)).map packB):=rfl;rw[HP.o];clear HP HR hf h;generalize blocksR s (k:Int)=l at HB HL HSZ ⊢;go_enter func43,ntmps43
 go_wp2_with fail
 refine HB.o.mono ?_;rintro e w1 ⟨v1,rfl,ho1,hb1⟩;obtain⟨a,cap,hv,_,hi1⟩:=ho1.strs;obtain⟨n,hn⟩:∃ n,n=l.length:=⟨_,rfl⟩;rw[<-hn]at hv HL;subst hv;have HN:=hideP hn;have S1:=hideP hi1;have B1:=hideP hb1;have hz1':=hb1.size;clear hn hi1 hb1 ho1
 go_wp2_with fail
 go_loopw [7,6] (fun iv tv wr=>∃ j:Nat,iv=.int .i64 j/\j<=n/\OwnS wr w1.heap.size tv ((l.take j).map packB)/\Below w1.heap.size w1 wr) (fun iv _ _=>n-(intOf iv).toNat)
 case atStart=>exact⟨0,rfl,Nat.zero_le _,own_noneS _,(Below.refl _ _).alloc nl _⟩
 case round =>
  obtain⟨j,rfl,hj,ho,hbw⟩:=hrel;have O:=hideP ho;have BW:=hideP hbw;have hzr:=hbw.size;clear ho hbw;by_cases hlt:j<n
  ·have hjl:j<l.length:=by rw[<-HN.o];exact hlt
   obtain⟨b,off,rfl,hb,hcl⟩:=strs_some (S1.o.below BW.o) (by omega);have ci:=hcl j hjl;have hx:=HSZ.o l[j] (List.getElem_mem hjl)
   have HNX:Hid ((l.take (j+1)).map packB=(l.take j).map packB++[packB l[j]]):=by
    unfold Hid;rw[List.take_add_one,List.getElem?_eq_getElem hjl,List.map_append];rfl
   have HLL:Hid (((l.take j).map packB).length=j):=by
    unfold Hid;rw[List.length_map,List.length_take];omega
   generalize (l.take j).map packB=q at O HNX HLL;generalize l[j]=x at ci hx HNX;have HP:=hideP (fun W=>pack_l06 x W hx);generalize packB x=px at HP HNX
   have hjn:(j:Int)<n:=by omega
   clear hcl hjl
   go_wp2_with fail
   refine(HP.o _).mono ?_;rintro e w3 ⟨rfl,hb3⟩;have O3:=hideP (O.o.below hb3);have B3:=hideP (BW.o.trans (hb3.mono hzr));have hz3:=B3.o.size;clear hb3
   go_wp2_with (at_builtin;refine wpList_append_own _ rfl (.tmp 18) (.tmp 24) 34 rfl w1.heap.size 9 i0 (.string ⟨#[]⟩) 1 16 underlying34 hif hz0 hz1 hz2 rfl (by decide) _ _ _ rfl (World.ownsRow.alloc O3.o _) ⟨w3.heap.size,0,none⟩ 1 1 [.string px] rfl rfl (one_newS w3 _ _) (one_cellS _) (by rw[HLL.o];unfold maxLen;omega) (by rw[HLL.o];omega) (by simp;omega) ?_)
   intro v4 w4 hown hgrow _
   have O4:Hid (OwnS w4 w1.heap.size v4 ((l.take (j+1)).map packB)):=by
    rw[HNX.o];exact OwnS.snoc hown
   have B4:=hideP (app_one B3.o hz3 nl O3.o hgrow);clear hown hgrow O3 O
   go_wp2_with fail
   go_roundw
   case rel=>exact⟨j+1,by go_num,by omega,O4.o,B4.o⟩
   case measure=>simp[intOf];omega
  ·obtain rfl:j=n:=by omega
   have OE:Hid (OwnS wr w1.heap.size u6 (l.map packB)):=by
    have:=O.o
    rw[List.take_of_length_le (by rw[<-HN.o];exact nl)]at this;exact this
   go_wp2_with fail
   go_ret;exact⟨_,rfl,OE.o.mono hz1',B1.o.trans (BW.o.mono hz1')⟩
theorem pieces_spec (s:ByteArray) (size:Int) (w:World) (hs:s.size<=1048576) :
  Calls prog 23 #[.string s,.int .i64 size] w fun e w'=>∃ v,e=.returned v/\OwnS w' w.heap.size v (piecesR s size)/\Below w.heap.size w w':=by
 have HFI:=hideP (fine_any s size w hs)
 cases hf:fineB s.size size with
 |false =>
  have HR:Hid (piecesR s size=[]):=by
   unfold Hid piecesR;rw[show blocksR s size=[] from if_neg (by rw[hf];decide)];rfl
  rw[hf]at HFI;go_enter func23,ntmps23
  go_wp2_with fail
  refine HFI.o.mono ?_;rintro e w1 ⟨rfl,hw⟩;subst w1
  go_wp2_with fail
  go_ret;exact⟨_,rfl,by rw[HR.o];exact own_noneS _,(Below.refl _ _).alloc nl _⟩
 |true =>
  have h:=of_decide_eq_true hf;obtain⟨k,rfl⟩:∃ k:Nat,size=k:=⟨size.toNat,by omega⟩;have HB:=hideP (l06Pieces_any s k w hf);rw[hf]at HFI;generalize piecesR s (k:Int)=R at HB ⊢;clear hf h;go_enter func23,ntmps23
  go_wp2_with fail
  refine HFI.o.mono ?_;rintro e w1 ⟨rfl,hw⟩;subst w1
  go_wp2_with fail
  refine HB.o.mono ?_;rintro e w2 ⟨v2,rfl,ho2,hb2⟩;have O2:=hideP ho2;have B2:=hideP hb2;clear ho2 hb2
  go_wp2_with fail
  go_ret;exact⟨_,rfl,O2.o,B2.o⟩
end Pk
namespace Ls
open Pk (piecesR piecesR_length pieces_impl l06Pieces_any packB innerV blocks_size)
open Bk (fineB fine_any blocksR)
open Tr (treeR tree right right_yes treeR_yes tree_size treeHash_impl treeHash_spec)
open Sh (Vars)
open Se (sealV)
noncomputable def rootV (s:ByteArray) (size:Int):ByteArray:=treeR (piecesR s size)
noncomputable def ofV (s:ByteArray) (size:Int):Value:=if 8000<s.size then oV 0 0 ⟨#[]⟩ 2 else if fineB s.size size=true then oV s.size size (rootV s size) 0 else oV 0 0 ⟨#[]⟩ 1
theorem pack_size (b:ByteArray):(packB b).size<=53:=by
 unfold packB
 split
 ·decide
 ·have h2:(innerV b).size<=49:=by
   unfold innerV
   split
   ·omega
   ·rw[Pk.plainV_size];omega
  unfold sealV;rw[if_pos (by omega),ByteArray.size_append,Se.fourS_size];omega
theorem pieces_right (s:ByteArray) (size:Int):right (piecesR s size)=true:=by
 refine(right_yes _).2 ⟨piecesR_length s size,fun j h=>?_⟩
 have hm:∀ x∈piecesR s size,x.size<=100:=fun x hx=>by
  obtain⟨b,_,hb⟩:=List.mem_map.1 hx;rw[<-hb]
  have:=pack_size b
  omega
 exact hm _ (List.getElem_mem h)
theorem root_size (s:ByteArray) (size:Int):(rootV s size).size=32:=by
 unfold rootV;rw[treeR_yes _ (pieces_right s size),tree_size]
theorem right_of_fine (s:ByteArray) (size:Int):rightB s.size size (rootV s size)=fineB s.size size:=by
 unfold rightB fineB
 have:=root_size s size
 rw[decide_eq_decide];omega
theorem vars_keep {w w':World} (h:Vars w) (hb:Below w.heap.size w w'):Vars w':=h.below hb h.two
theorem of_impl (s:ByteArray) (size:Int) (w:World) (hs:s.size<=1048576) (hV:Vars w) :
  Calls prog 5 #[.string s,.int .i64 size] w fun e w'=>e=.returned (ofV s size)/\Below w.heap.size w w':=by
 obtain⟨g,hg⟩:∃ g,g=w.heap.size:=⟨_,rfl⟩;have HBE:=hideL hg.symm
 have HR0:Hid ((w.alloc (.cells #[.int .i64 0,.int .i64 0,.string ⟨#[]⟩,.int .i64 0] 28)).heap[g]? = some (.cells #[.int .i64 0,.int .i64 0,.string ⟨#[]⟩,.int .i64 0] 28 (0,0))):=by rw[hg];exact heap_alloc_new w _
 have HL0:Hid (Below g w (w.alloc (.cells #[.int .i64 0,.int .i64 0,.string ⟨#[]⟩,.int .i64 0] 28))):=by rw[hg];exact(Below.refl _ _).alloc nl _
 have HV0:Hid (Vars (w.alloc (.cells #[.int .i64 0,.int .i64 0,.string ⟨#[]⟩,.int .i64 0] 28))):=vars_keep hV ((Below.refl _ _).alloc nl _);clear hV;by_cases h8:8000<s.size
 ·have HF:Hid (ofV s size=oV 0 0 ⟨#[]⟩ 2):=if_pos h8
  rw[HF.o];clear hg;go_enter func5,ntmps5
  go_wp2
  refine bodyPost_ret (v:=oV 0 0 ⟨#[]⟩ 2) (by simp[results,oV,results5,go_sem]) rfl ⟨rfl,?_⟩;exact(Below.refl _ _).alloc nl _
 ·have h8':decide ((8000:Int)<(s.size:Int))=false:=by simp;omega
  have HRF:=hideL (right_of_fine s size);have HRZ:=hideL (root_size s size);have HF:Hid (ofV s size=if fineB s.size size=true then oV s.size size (rootV s size) 0 else oV 0 0 ⟨#[]⟩ 1):=if_neg h8;have HPI:=hideL (fun W=>pieces_impl s size W hs);have HPL:=hideL (piecesR_length s size);have HRT:Hid (rootV s size=treeR (piecesR s size)):=rfl;rw[HF.o];clear HF;generalize rootV s size=R at HRF HRZ HRT ⊢;generalize piecesR s size=l at HPI HPL HRT;obtain⟨ans,hans⟩:∃ x,x=if fineB s.size size=true then oV s.size size R 0 else oV 0 0 ⟨#[]⟩ 1:=⟨_,rfl⟩;rw[<-hans];have HANS:=hideL hans;clear hans;go_enter func5,ntmps5
  go_wp2_with fail
  rw[<-hg];generalize hww:w.alloc (.cells #[.int .i64 0,.int .i64 0,.string ⟨#[]⟩,.int .i64 0] 28)=w0 at HR0 HL0 HV0 ⊢;clear hww hg;refine(HPI.o _).mono ?_;rintro e w1 ⟨v,rfl,ho,hb⟩;obtain⟨a,cap,hv,hcap,hi⟩:=ho.strs;obtain⟨n,hn⟩:∃ n,n=l.length:=⟨_,rfl⟩;rw[<-hn]at hv hcap;subst hv;have HN:=hideL hn;have S1:=hideL hi;have R1:=hideL (blkL HR0.o hb);have L1:=hideL (lowB HBE.o HL0.o hb);have V1:=hideL (vars_keep HV0.o hb);clear hn hi hb ho HR0 HL0 HV0
  go_wp2_with fail
  refine(treeHash_impl l n a cap w1.heap.size w1 HN.o.symm (by omega) (by have:=HPL.o;have:=HN.o;omega) S1.o nl V1.o).mono ?_;rw[<-HRT.o];rintro e w2 ⟨rfl,hb⟩;have R2:=hideL (blkL R1.o hb);have L2:=hideL (lowB HBE.o L1.o hb);clear hb R1 L1 V1 S1;have HRI:=hideL (fun W=>right_impl s.size size R W);rw[HRF.o]at HRI;unfold lV at HRI;have R3:Hid ((w2.alloc (.cells #[.int .i64 s.size,.int .i64 size,.string R] 26)).heap[g]? = some (.cells #[.int .i64 0,.int .i64 0,.string ⟨#[]⟩,.int .i64 0] 28 (0,0))):=blk_alloc R2.o _;have X3:Hid ((w2.alloc (.cells #[.int .i64 s.size,.int .i64 size,.string R] 26)).heap[w2.heap.size]? = some (.cells #[.int .i64 s.size,.int .i64 size,.string R] 26 (0,0))):=heap_alloc_new w2 _;have L3:Hid (Below g w (w2.alloc (.cells #[.int .i64 s.size,.int .i64 size,.string R] 26))):=lowB_alloc HBE.o L2.o _
  go_wp2_with fail
  generalize hww:w2.alloc (.cells #[.int .i64 s.size,.int .i64 size,.string R] 26)=w3 at R3 X3 L3 ⊢;generalize w2.heap.size=gx at X3 ⊢;clear hww R2 L2;refine(HRI.o _).mono ?_;rintro e w4 ⟨rfl,hb⟩;have R4:=hideL (blkL R3.o hb);have X4:=hideL (blkL X3.o hb);have L4:=hideL (lowB HBE.o L3.o hb);clear hb R3 X3 L3 HRF HRI;obtain⟨c0,c1,c2,c3⟩:=cells4 R4.o;obtain⟨d0,d1,d2⟩:=cells3 X4.o;have ff:=fun o=>frozen_of_row w4 g o _ _ R4.o
  cases hf:fineB s.size size with
  |false =>
   have HAN:Hid (ans=oV 0 0 ⟨#[]⟩ 1):=by rw[HANS.o,hf];exact if_neg (by decide)
   clear hf HANS;have s4:=set4_cells R4.o (.int .i64 0) (.int .i64 0) (.string ⟨#[]⟩) (.int .i64 1)
   go_wp2_with fail
   refine bodyPost_ret (v:=oV 0 0 ⟨#[]⟩ 1) (by simp[results,oV,results5,go_sem,s4.1,s4.2.1,s4.2.2.1,s4.2.2.2]) rfl ⟨by rw[HAN.o],?_⟩;rw[HBE.o];exact set4_low L4.o _ _ _ _
  |true =>
   have HAN:Hid (ans=oV s.size size R 0):=by rw[HANS.o,hf];exact if_pos rfl
   clear hf HANS;have s4:=set4_cells R4.o (.int .i64 s.size) (.int .i64 size) (.string R) (.int .i64 0)
   go_wp2_with fail
   refine bodyPost_ret (v:=oV s.size size R 0) (by simp[results,oV,results5,go_sem,s4.1,s4.2.1,s4.2.2.1,s4.2.2.2]) rfl ⟨by rw[HAN.o],?_⟩;rw[HBE.o];exact set4_low L4.o _ _ _ _
theorem treeOf_any (l:List ByteArray) (n:Nat) (a:Option Addr) (cap:Nat) (w:World) (hln:l.length=n) (hcap:n<=cap) (hn:n<=1048576) (hs:St.Strs w w.heap.size a l) :
  Calls prog 42 #[.slice a n cap] w fun e w'=>e=.returned (.string (treeR l))/\Below w.heap.size w w':=by
 have H:=hideL (treeHash_spec l n a cap w.heap.size w hln hcap hn hs nl);generalize treeR l=R at H ⊢;go_enter func42,ntmps42
 go_wp2_with fail
 refine H.o.mono ?_;rintro e w1 ⟨rfl,hb⟩;have HB:=hideL hb;clear hb
 go_wp2_with fail
 go_ret;exact⟨rfl,HB.o⟩
theorem of_spec (s:ByteArray) (size:Int) (w:World) (hs:s.size<=1048576) :
  Calls prog 12 #[.string s,.int .i64 size] w fun e w'=>e=.returned (ofV s size)/\Below w.heap.size w w':=by
 obtain⟨g,hg⟩:∃ g,g=w.heap.size:=⟨_,rfl⟩;have HBE:=hideL hg.symm
 have HR0:Hid ((w.alloc (.cells #[.int .i64 0,.int .i64 0,.string ⟨#[]⟩,.int .i64 0] 28)).heap[g]? = some (.cells #[.int .i64 0,.int .i64 0,.string ⟨#[]⟩,.int .i64 0] 28 (0,0))):=by rw[hg];exact heap_alloc_new w _
 have HL0:Hid (Below g w (w.alloc (.cells #[.int .i64 0,.int .i64 0,.string ⟨#[]⟩,.int .i64 0] 28))):=by rw[hg];exact(Below.refl _ _).alloc nl _
 by_cases h8:8000<s.size
 ·have HF:Hid (ofV s size=oV 0 0 ⟨#[]⟩ 2):=if_pos h8
  rw[HF.o];clear hg;go_enter func12,ntmps12
  go_wp2
  refine bodyPost_ret (v:=oV 0 0 ⟨#[]⟩ 2) (by simp[results,oV,results12,go_sem]) rfl ⟨rfl,?_⟩;exact(Below.refl _ _).alloc nl _
 ·have h8':decide ((8000:Int)<(s.size:Int))=false:=by simp;omega
  have HFI:=hideL (fun W=>fine_any s size W hs);have HF:Hid (ofV s size=if fineB s.size size=true then oV s.size size (rootV s size) 0 else oV 0 0 ⟨#[]⟩ 1):=if_neg h8;rw[HF.o];clear HF
  cases hf:fineB s.size size with
  |false =>
   rw[if_neg (by decide)];rw[hf]at HFI;go_enter func12,ntmps12
   go_wp2_with fail
   rw[<-hg];generalize hww:w.alloc (.cells #[.int .i64 0,.int .i64 0,.string ⟨#[]⟩,.int .i64 0] 28)=w0 at HR0 HL0 ⊢;clear hww hg;refine(HFI.o _).mono ?_;rintro e w1 ⟨rfl,hw⟩;subst w1;obtain⟨c0,c1,c2,c3⟩:=cells4 HR0.o;have ff:=fun o=>frozen_of_row w0 g o _ _ HR0.o;have s4:=set4_cells HR0.o (.int .i64 0) (.int .i64 0) (.string ⟨#[]⟩) (.int .i64 1)
   go_wp2_with fail
   refine bodyPost_ret (v:=oV 0 0 ⟨#[]⟩ 1) (by simp[results,oV,results12,go_sem,s4.1,s4.2.1,s4.2.2.1,s4.2.2.2]) rfl ⟨rfl,?_⟩;rw[HBE.o];exact set4_low HL0.o _ _ _ _
  |true =>
   rw[if_pos rfl];rw[hf]at HFI;have hfi:=of_decide_eq_true hf;obtain⟨k,hk⟩:=Int.eq_ofNat_of_zero_le (show 0<=size by omega);subst hk;have HPI:=hideL (fun W=>l06Pieces_any s k W hf);have HPL:=hideL (piecesR_length s (k:Int));have HRT:Hid (rootV s (k:Int)=treeR (piecesR s (k:Int))):=rfl;clear hf hfi;generalize rootV s (k:Int)=R at HRT ⊢;generalize piecesR s (k:Int)=l at HPI HPL HRT;go_enter func12,ntmps12
   go_wp2_with fail
   rw[<-hg];generalize hww:w.alloc (.cells #[.int .i64 0,.int .i64 0,.string ⟨#[]⟩,.int .i64 0] 28)=w0 at HR0 HL0 ⊢;clear hww hg;refine(HFI.o _).mono ?_;rintro e w1 ⟨rfl,hw⟩;subst w1
   go_wp2_with fail
   refine(HPI.o _).mono ?_;rintro e w1 ⟨v,rfl,ho,hb⟩;obtain⟨a,cap,hv,hcap,hi⟩:=ho.strs;obtain⟨n,hn⟩:∃ n,n=l.length:=⟨_,rfl⟩;rw[<-hn]at hv hcap;subst hv;have HN:=hideL hn;have S1:=hideL hi;have R1:=hideL (blkL HR0.o hb);have L1:=hideL (lowB HBE.o HL0.o hb);clear hn hi hb ho HR0 HL0
   go_wp2_with fail
   refine(treeOf_any l n a cap w1 HN.o.symm (by omega) (by have:=HPL.o;have:=HN.o;omega) S1.o).mono ?_;rw[<-HRT.o];rintro e w2 ⟨rfl,hb⟩;have R2:=hideL (blkL R1.o hb);have L2:=hideL (lowB HBE.o L1.o hb);clear hb R1 L1 S1;obtain⟨c0,c1,c2,c3⟩:=cells4 R2.o;have ff:=fun o=>frozen_of_row w2 g o _ _ R2.o;have s4:=set4_cells R2.o (.int .i64 s.size) (.int .i64 (k:Nat)) (.string R) (.int .i64 0)
   go_wp2_with fail
   refine bodyPost_ret (v:=oV s.size (k:Nat) R 0) (by simp[results,oV,results12,go_sem,s4.1,s4.2.1,s4.2.2.1,s4.2.2.2]) rfl ⟨rfl,?_⟩;rw[HBE.o];exact set4_low L2.o _ _ _ _
theorem ofV_form (s:ByteArray) (size:Int):∃ z b r c,ofV s size=oV z b r c:=by
 unfold ofV
 split
 ·exact⟨_,_,_,_,rfl⟩
 ·split<;>exact⟨_,_,_,_,rfl⟩
end Ls
namespace Up
open Pk
open Sh (bt)
def cutR:Go.Shelf.Ren:=⟨fun|206=>141|n=>n,fun|9=>9|4=>4|3=>3|n=>n,fun|n=>n⟩
theorem cutL:Go.Proofs.Lays.n206 prog cutR:={
 mixed:=by kernel_rfl
 f206:=func141.trans (congrArg some (by kernel_rfl))
 t3:=underlying3
 a3:=Tryz.isAgg3
 z3:=Tryz.sizeOf3
 v3:=Tryz.zeroValue3
 t4:=underlying4
 a4:=Tryz.isAgg4
 z4:=Tryz.sizeOf4
 v4:=Tryz.zeroValue4
 t9:=underlying9
 a9:=Tryz.isAgg9
 z9:=Tryz.sizeOf9
 v9:=Tryz.zeroValue9 }
theorem has_one (t:ByteArray) (k:UInt8):Lib.hasPrefix t.data.toList [k]=decide (0<t.size/\bt t 0=k.toNat):=by
 have hz:t.size=t.data.toList.length:=by rw[Array.length_toList];rfl
 have hb:bt t 0=(t.data.toList.getD 0 0).toNat:=by
  unfold Sh.bt;simp
 rw[hz,hb]
 cases t.data.toList with
 |nil=>simp[Lib.hasPrefix]
 |cons x l =>
  have e:Lib.hasPrefix (x :: l) [k]=(k==x):=by
   show [k].isPrefixOf (x :: l)=_
   simp[List.isPrefixOf]
  rw[e];by_cases h:k=x
  ·subst h
   simp
  ·have h2:¬x.toNat=k.toNat:=fun q=>h (UInt8.toNat_inj.1 q).symm
   rw[beq_eq_false_iff_ne.2 h,decide_eq_false];exact fun q=>h2 q.2
theorem size_ext (t:ByteArray):(t.extract 1 t.size).size<=t.size:=by
 rw[ByteArray.size_extract];omega
theorem cutLite_any (t:ByteArray) (k:UInt8) (w:World) (ht:t.size<=1048576) :
  Calls prog 140 #[.string t,.string ⟨#[k]⟩] w fun e w'=>((0<t.size/\bt t 0=k.toNat)/\e=.returned (.tuple #[.string (t.extract 1 t.size),.bool true])∨¬(0<t.size/\bt t 0=k.toNat)/\e=.returned (.tuple #[.string t,.bool false]))/\w'=w:=by
 have HP:=hideP (Any.stringslite_HasPrefix cutL t ⟨#[k]⟩ w);have HO:=hideP (has_one t k);by_cases h:0<t.size/\bt t 0=k.toNat
 ·rw[show (⟨#[k]⟩:ByteArray).data.toList=[k] from rfl,HO.o,decide_eq_true h]at HP
  have h1:(1:Int)<=(t.size:Int):=by omega
  go_enter func140,ntmps140
  go_wp2_with fail
  refine HP.o.mono ?_;rintro e w' ⟨rfl,rfl⟩;have hk:(⟨#[k]⟩:ByteArray).size=1:=rfl
  go_wp2_with fail
  go_ret2;exact⟨.inl ⟨h,rfl⟩,rfl⟩
 ·rw[show (⟨#[k]⟩:ByteArray).data.toList=[k] from rfl,HO.o,decide_eq_false h]at HP
  go_enter func140,ntmps140
  go_wp2_with fail
  refine HP.o.mono ?_;rintro e w' ⟨rfl,rfl⟩
  go_wp2_with fail
  go_ret2;exact⟨.inr ⟨h,rfl⟩,rfl⟩
theorem cut_any (t:ByteArray) (k:UInt8) (w:World) (ht:t.size<=1048576) :
  Calls prog 101 #[.string t,.string ⟨#[k]⟩] w fun e w'=>((0<t.size/\bt t 0=k.toNat)/\e=.returned (.tuple #[.string (t.extract 1 t.size),.bool true])∨¬(0<t.size/\bt t 0=k.toNat)/\e=.returned (.tuple #[.string t,.bool false]))/\w'=w:=by
 go_enter func101,ntmps101
 go_wp2_with fail
 refine(cutLite_any t k w ht).mono ?_;rintro e w' ⟨⟨h,rfl⟩|⟨h,rfl⟩,rfl⟩
 ·go_wp2_with fail
  go_ret2;exact⟨.inl ⟨h,rfl⟩,rfl⟩
 ·go_wp2_with fail
  go_ret2;exact⟨.inr ⟨h,rfl⟩,rfl⟩
theorem has_any (t:ByteArray) (k:UInt8) (w:World) :
  Calls prog 102 #[.string t,.string ⟨#[k]⟩] w fun e w'=>e=.returned (.bool (decide (0<t.size/\bt t 0=k.toNat)))/\w'=w:=by
 have:=Bi.prefix_any t ⟨#[k]⟩ w
 rw[show (⟨#[k]⟩:ByteArray).data.toList=[k] from rfl,has_one t k]at this;exact this
theorem read_block (ev:Value) (HS:Hid (∀ (s:ByteArray) (w:World),Glob w ev->1<=s.size->s.size<=8000->Calls prog 103 #[.string s] w fun e w'=>(∃ r v,e=.returned (.tuple #[.string r,v])/\(v=.nilIface∨v=ev)/\r.size<=8000/\∀ b,Good s b->r=b/\v=.nilIface)/\Below w.heap.size w w'))
  (t:ByteArray) (w:World) (ht:t.size<=8000) (hg:Glob w ev) :
  Calls prog 75 #[.string t] w fun e w'=>(∃ r v,e=.returned (.tuple #[.string r,v])/\(v=.nilIface∨v=ev)/\r.size<=8000/\∀ b:ByteArray,b.size<=48->innerV b=t->r=b/\v=.nilIface)/\Below w.heap.size w w':=by
 have HG:=hideP hg;have g0:w.cell? ⟨0,0,none⟩=some ev:=hg.2;clear hg;go_enter func75,ntmps75
 go_wp2_with fail
 refine(cut_any t 0 w (by omega)).mono ?_;rintro e w' ⟨⟨h,rfl⟩|⟨h,rfl⟩,rfl⟩
 ·go_wp2_with fail
  go_ret2;refine⟨⟨_,_,rfl,.inl rfl,by have:=size_ext t;omega,fun b h1 h2=>?_⟩,Below.refl _ _⟩
  rcases inner_case h1 h2 with k|k
  ·have q1:=k.2.2
   have q2:bt t 0=0:=h.2;omega
  ·exact⟨k.2.2.2,rfl⟩
 ·have H0:=hideP h
  clear h
  go_wp2_with fail
  refine(has_any t 1 _).mono ?_;rintro e w2 ⟨rfl,rfl⟩;by_cases h1:0<t.size/\bt t 0=(1:UInt8).toNat
  ·rw[decide_eq_true h1]
   have H1:=hideP h1;clear h1
   go_wp2_with fail
   refine(HS.o t _ HG.o (by have:=H1.o.1;omega) ht).mono ?_;rintro e w3 ⟨⟨r,v,rfl,hv,hrz,hr⟩,hb⟩;have HV:=hideP hv;have HR:=hideP hr;have HB:=hideP hb;clear hv hr hb
   go_wp2_with fail
   go_ret2;refine⟨⟨_,_,rfl,HV.o,hrz,fun b h1 h2=>?_⟩,HB.o⟩
   rcases inner_case h1 h2 with k|k
   ·exact HR.o b k.1
   ·exact absurd ⟨k.2.1,k.2.2.1⟩ H0.o
  ·rw[decide_eq_false h1]
   have H1:=hideP h1;clear h1
   go_wp2_with fail
   go_quiet (fail)
   go_wp2_with fail
   go_ret2;refine⟨⟨_,_,rfl,.inr rfl,by decide,fun b h1 h2=>?_⟩,below_drewN (Below.refl _ _) _⟩
   rcases inner_case h1 h2 with k|k
   ·exact absurd ⟨k.2.1,k.2.2⟩ H1.o
   ·exact absurd ⟨k.2.1,k.2.2.1⟩ H0.o
end Up
namespace Up
open Pk
open Se (sealV unsealV outV unseal_impl)
def ShortOk (ev:Value):Prop:=∀ (s:ByteArray) (w:World),Glob w ev->1<=s.size->s.size<=8000->Calls prog 103 #[.string s] w fun e w'=>(∃ r v,e=.returned (.tuple #[.string r,v])/\(v=.nilIface∨v=ev)/\r.size<=8000/\∀ b,Good s b->r=b/\v=.nilIface)/\Below w.heap.size w w'
def IsOk (ev:Value):Prop:=∀ w:World,Calls prog 76 #[ev,ev] w fun e w'=>e=.returned (.bool true)/\Below w.heap.size w w'
theorem unpack_impl (tid:TypeId) (pv:Value) (HS:Hid (ShortOk (.iface tid pv))) (HI:Hid (IsOk (.iface tid pv))) (s:ByteArray) (w:World) (hs:s.size<=1048576) (hgl:Glob w (.iface tid pv)) :
  Calls prog 47 #[.string s] w fun e w'=>e=.returned (ansU s)/\Below w.heap.size w w':=by
 obtain⟨g,hg⟩:∃ g,g=w.heap.size:=⟨_,rfl⟩;have HBE:=hideP hg.symm
 have HR0:Hid ((w.alloc (.cells #[.string ⟨#[]⟩,.int .i64 0,.int .i64 0] 67)).heap[g]? = some (.cells #[.string ⟨#[]⟩,.int .i64 0,.int .i64 0] 67 (0,0))):=by rw[hg];exact heap_alloc_new w _
 have HL0:Hid (Below g w (w.alloc (.cells #[.string ⟨#[]⟩,.int .i64 0,.int .i64 0] 67))):=by rw[hg];exact(Below.refl _ _).alloc nl _
 have HG0:Hid (Glob (w.alloc (.cells #[.string ⟨#[]⟩,.int .i64 0,.int .i64 0] 67)) (.iface tid pv)):=glob_keep hgl ((Below.refl _ _).alloc nl _);clear hgl
 rcases unseal_case s with⟨t,hu,hse,htz,h4⟩|⟨c,hc0,hu⟩
 ·have HU:=hideP hu
  have HSE:=hideP hse;have HAN:=hideP (ansU_yes hu);clear hu hse;go_enter func47,ntmps47
  go_wp2_with fail
  rw[<-hg];generalize hww:w.alloc (.cells #[.string ⟨#[]⟩,.int .i64 0,.int .i64 0] 67)=w0 at HR0 HL0 HG0 ⊢;clear hww hg;refine(unseal_impl s _ (by unfold maxLen;omega)).mono ?_;rintro e w1 ⟨rfl,hb1⟩;have R1:=hideP (blk_low HR0.o hb1);have L1:=hideP (low2 HBE.o HL0.o hb1);have G1:=hideP (glob_keep HG0.o hb1);clear hb1 HR0 HL0 HG0;rw[HU.o];unfold outV
  go_wp2_with fail
  have Rwx:Hid ((w1.alloc (.cells #[.string t,.int .i64 0,.int .i64 0] 67)).heap[g]? = some (.cells #[.string ⟨#[]⟩,.int .i64 0,.int .i64 0] 67 (0,0))):=blk_low R1.o ((Below.refl _ _).alloc nl _);have Lwx:Hid (Below g w (w1.alloc (.cells #[.string t,.int .i64 0,.int .i64 0] 67))):=low2 HBE.o L1.o ((Below.refl _ _).alloc nl _);have Gwx:Hid (Glob (w1.alloc (.cells #[.string t,.int .i64 0,.int .i64 0] 67)) (.iface tid pv)):=glob_keep G1.o ((Below.refl _ _).alloc nl _);generalize hww:w1.alloc (.cells #[.string t,.int .i64 0,.int .i64 0] 67)=wx at Rwx Lwx Gwx ⊢;clear hww R1 L1 G1;refine(read_block (.iface tid pv) HS t wx (by omega) Gwx.o).mono ?_;rintro e w2 ⟨⟨r,v,rfl,hv,hrz,hr⟩,hb2⟩;have R2:=hideP (blk_low Rwx.o hb2);have L2:=hideP (low2 HBE.o Lwx.o hb2);have G2:=hideP (glob_keep Gwx.o hb2);have HR:=hideP hr;have g2:=G2.o.2;clear hb2 hr Rwx Lwx Gwx
  rcases hv with rfl|rfl
  ·go_wp2_with fail
   refine(is_nil tid pv w2).mono ?_;rintro e w3 ⟨rfl,rfl⟩
   go_wp2_with fail
   refine(pack_impl r _ (by omega)).mono ?_;rintro e wp ⟨rfl,hbp⟩;have Rwp:=hideP (blk_low R2.o hbp);have Lwp:=hideP (low2 HBE.o L2.o hbp);clear hbp g2 G2 R2 L2;obtain⟨kb,hkb⟩:∃ x,x=packB r:=⟨_,rfl⟩;obtain⟨ha1,ha2⟩:=ansT_read HSE.o htz h4 (r:=r) (fun b h1 h2=>(HR.o b h1 h2).1);rw[<-hkb]at ha1 ha2 ⊢;clear hkb;by_cases hk:kb=s
   ·have HQ:=hideP (ha1 hk)
    subst hk;obtain⟨cc0,cc1,cc2⟩:=three Rwp.o;have ff:=fun o=>frozen_of_row wp g o _ _ Rwp.o;have s3:=set3_cells Rwp.o (.string r) (.int .i64 0) (.int .i64 0);(go_wp2_with fail);refine bodyPost_ret (v:=outV r 0 0) (by simp[results,outV,results47,go_sem,s3.1,s3.2.1,s3.2.2]) rfl ⟨?_,?_⟩
    ·rw[HAN.o,HQ.o]
    ·rw[HBE.o]
     exact set3_low Lwp.o _ _ _
   ·have HQ:=hideP (ha2 hk)
    have hkl:(kb.toList==s.toList)=false:=by rw[list_eqP];exact decide_eq_false hk
    obtain⟨cc0,cc1,cc2⟩:=three Rwp.o;have ff:=fun o=>frozen_of_row wp g o _ _ Rwp.o;have s3:=set3_cells Rwp.o (.string ⟨#[]⟩) (.int .i64 0) (.int .i64 3);(go_wp2_with fail);refine bodyPost_ret (v:=outV ⟨#[]⟩ 0 3) (by simp[results,outV,results47,go_sem,s3.1,s3.2.1,s3.2.2]) rfl ⟨?_,?_⟩
    ·rw[HAN.o,HQ.o]
    ·rw[HBE.o]
     exact set3_low Lwp.o _ _ _
  ·have HQ:=hideP (ansT_none (t:=t) fun b h1 h2=>by have:=(HR.o b h1 h2).2;cases this)
   go_wp2_with fail
   refine(HI.o w2).mono ?_;rintro e wp ⟨rfl,hbp⟩;have Rwp:=hideP (blk_low R2.o hbp);have Lwp:=hideP (low2 HBE.o L2.o hbp);clear hbp g2 G2 R2 L2;obtain⟨cc0,cc1,cc2⟩:=three Rwp.o;have ff:=fun o=>frozen_of_row wp g o _ _ Rwp.o;have s3:=set3_cells Rwp.o (.string ⟨#[]⟩) (.int .i64 0) (.int .i64 3)
   go_wp2_with fail
   refine bodyPost_ret (v:=outV ⟨#[]⟩ 0 3) (by simp[results,outV,results47,go_sem,s3.1,s3.2.1,s3.2.2]) rfl ⟨?_,?_⟩
   ·rw[HAN.o,HQ.o]
   ·rw[HBE.o]
    exact set3_low Lwp.o _ _ _
 ·have HAN:=hideP (ansU_no hc0 hu)
  have HU:=hideP hu
  have hc':(c != 0)=true:=by simp;exact hc0
  clear hu hc0;go_enter func47,ntmps47
  go_wp2_with fail
  rw[<-hg];generalize hww:w.alloc (.cells #[.string ⟨#[]⟩,.int .i64 0,.int .i64 0] 67)=w0 at HR0 HL0 HG0 ⊢;clear hww hg;refine(unseal_impl s _ (by unfold maxLen;omega)).mono ?_;rintro e w1 ⟨rfl,hb1⟩;have R1:=hideP (blk_low HR0.o hb1);have L1:=hideP (low2 HBE.o HL0.o hb1);clear hb1 HR0 HL0 HG0;rw[HU.o];unfold outV;obtain⟨cc0,cc1,cc2⟩:=three R1.o;have ff:=fun o=>frozen_of_row w1 g o _ _ R1.o;have s3:=fun o=>set3_alloc R1.o (.string ⟨#[]⟩) (.int .i64 0) (.int .i64 c) o;have HGW:Hid (g<w1.heap.size):=(Array.getElem?_eq_some_iff.1 R1.o).1;have hgw:=HGW.o
  go_wp2_with fail
  refine bodyPost_ret (v:=outV ⟨#[]⟩ 0 c) (by simp[results,outV,results47,go_sem,(s3 _).1,(s3 _).2.1,(s3 _).2.2]) rfl ⟨?_,?_⟩
  ·rw[HAN.o]
  ·rw[HBE.o]
   exact set3_lowA HBE.o L1.o _ _ _ _
end Up
namespace Up
open Go.RowKit Go.Extern.Stop Go.Stop Go.Extern
theorem typeOfE (v:Value) (w:World):(ReflectliteType.typeOf #[.iface 258 v]).run prog w=.ok (.iface 144 (.agg #[.pointer (some ⟨4,258,none⟩)])) w:=by kernel_rfl
theorem methodCmp (h:Value) (w:World):(Go.method 390 144 (.agg #[h]) "Comparable").run prog w=.ok (266,.agg #[h]) w:=by kernel_rfl
def cmpF:Array Value->Sem Value:=ReflectliteType.method fun t=>do Rtype.noPackHeld "Comparable" t;pure (.bool (<-typeInfo t).comparable)
theorem cmpE (w:World):(cmpF #[.agg #[.pointer (some ⟨4,258,none⟩)]]).run prog w=.ok (.bool true) w:=by kernel_rfl
theorem infoE:(prog.info? 258).map (·.comparable)=some true:=by kernel_rfl
theorem infoS:(prog.info? 278).isSome=true:=by kernel_rfl
theorem eqE (a:Addr) (u:World):Sem.run prog (binOp BinOp.eql 85 (.iface 258 (.pointer (some a))) (.iface 258 (.pointer (some a)))) u=.ok (.bool true) u:=by
 cases h1:prog.info? 258 with
 |none=>have:=infoE;rw[h1]at this;cases this
 |some i =>
  cases h2:prog.info? 278 with
  |none=>have:=infoS;rw[h2]at this;cases this
  |some j =>
   have hc:i.comparable=true:=by have:=infoE;rw[h1]at this;simpa using this
   exact run_eql_iface_ptr_same u a underlying85 underlying258 h1 hc h2
theorem is_same (a:Addr) (w:World) :
  Calls prog 105 #[.iface 258 (.pointer (some a)),.iface 258 (.pointer (some a)),.bool true] w fun e w'=>e=.returned (.bool true)/\w'=w:=by
 have heq:=eqE a;go_enter func105,ntmps105
 go_wp2
 refine wp_loop_rounds 1 ?_;rw[rounds_succ]
 go_wp2
 go_ret;exact⟨rfl,rfl⟩
theorem is_self (a:Addr) (w:World) :
  Calls prog 76 #[.iface 258 (.pointer (some a)),.iface 258 (.pointer (some a))] w fun e w'=>e=.returned (.bool true)/\Below w.heap.size w w':=by
 have hG:=@run_callFunc_extern prog 104 _ ReflectliteType.typeOf func104 (by kernel_rfl) (by kernel_rfl) (by kernel_rfl) (by kernel_rfl);have hX:=@run_callFunc_extern prog 266 _ cmpF func266 (by kernel_rfl) (by kernel_rfl) (by kernel_rfl) (by kernel_rfl);have f1:=typeOfE;have f2:=methodCmp;have f3:=cmpE;go_enter func76,ntmps76
 go_wp2_with fail
 refine(is_same a _).mono ?_;rintro e w1 ⟨rfl,hw⟩;subst w1
 go_wp2_with fail
 go_ret;exact⟨rfl,Below.refl _ _⟩
end Up
end Go.Proofs.YtaejgfdkfcmjeaaGreatDoor
