import Derived.Test.YtbdcffjcogglbaaGreatDoorOz46
set_option maxRecDepth 100000
set_option maxHeartbeats 8000000
namespace Go.Proofs.YtbdcffjcogglbaaGreatDoor
open Go.RowKit
open Go.Proofs.Tryz
namespace Ls
open Pk (piecesR piecesR_length pieces_impl l06Pieces_any packB innerV blocks_size)
open Bk (fineB fine_any blocksR)
open Tr (treeR tree right right_yes treeR_yes tree_size treeHash_impl treeHash_spec)
open Sh (Vars)
open Se (sealV)
noncomputable def rootV (s:ByteArray) (size:Int):ByteArray:=treeR (piecesR s size)
noncomputable def ofV (s:ByteArray) (size:Int):Value:=if 8000<s.size then oV 0 0 ⟨#[]⟩ 2 else if fineB s.size size=true then oV s.size size (rootV s size) 0 else oV 0 0 ⟨#[]⟩ 1
theorem pack_size (b:ByteArray):(packB b).size<=53:=by
 unfold packB
 split
 ·decide
 ·have h2:(innerV b).size<=49:=by
   unfold innerV
   split
   ·omega
   ·rw[Pk.plainV_size];omega
  unfold sealV;rw[if_pos (by omega),ByteArray.size_append,Se.fourS_size];omega
theorem pieces_right (s:ByteArray) (size:Int):right (piecesR s size)=true:=by
 refine(right_yes _).2 ⟨piecesR_length s size,fun j h=>?_⟩
 have hm:∀ x∈piecesR s size,x.size<=100:=fun x hx=>by
  obtain⟨b,_,hb⟩:=List.mem_map.1 hx;rw[<-hb]
  have:=pack_size b
  omega
 exact hm _ (List.getElem_mem h)
theorem root_size (s:ByteArray) (size:Int):(rootV s size).size=32:=by
 unfold rootV;rw[treeR_yes _ (pieces_right s size),tree_size]
theorem right_of_fine (s:ByteArray) (size:Int):rightB s.size size (rootV s size)=fineB s.size size:=by
 unfold rightB fineB
 have:=root_size s size
 rw[decide_eq_decide];omega
theorem vars_keep {w w':World} (h:Vars w) (hb:Below w.heap.size w w'):Vars w':=h.below hb h.two
theorem of_impl (s:ByteArray) (size:Int) (w:World) (hs:s.size<=1048576) (hV:Vars w) :
  Calls prog 5 #[.string s,.int .i64 size] w fun e w'=>e=.returned (ofV s size)/\Below w.heap.size w w':=by
 obtain⟨g,hg⟩:∃ g,g=w.heap.size:=⟨_,rfl⟩;have HBE:=hideL hg.symm
 have HR0:Hid ((w.alloc (.cells #[.int .i64 0,.int .i64 0,.string ⟨#[]⟩,.int .i64 0] 28)).heap[g]? = some (.cells #[.int .i64 0,.int .i64 0,.string ⟨#[]⟩,.int .i64 0] 28 (0,0))):=by rw[hg];exact heap_alloc_new w _
 have HL0:Hid (Below g w (w.alloc (.cells #[.int .i64 0,.int .i64 0,.string ⟨#[]⟩,.int .i64 0] 28))):=by rw[hg];exact(Below.refl _ _).alloc nl _
 have HV0:Hid (Vars (w.alloc (.cells #[.int .i64 0,.int .i64 0,.string ⟨#[]⟩,.int .i64 0] 28))):=vars_keep hV ((Below.refl _ _).alloc nl _);clear hV;by_cases h8:8000<s.size
 ·have HF:Hid (ofV s size=oV 0 0 ⟨#[]⟩ 2):=if_pos h8
  rw[HF.o];clear hg;go_enter func5,ntmps5
  go_wp2
  refine bodyPost_ret (v:=oV 0 0 ⟨#[]⟩ 2) (by simp[results,oV,results5,go_sem]) rfl ⟨rfl,?_⟩;exact(Below.refl _ _).alloc nl _
 ·have h8':decide ((8000:Int)<(s.size:Int))=false:=by simp;omega
  have HRF:=hideL (right_of_fine s size);have HRZ:=hideL (root_size s size);have HF:Hid (ofV s size=if fineB s.size size=true then oV s.size size (rootV s size) 0 else oV 0 0 ⟨#[]⟩ 1):=if_neg h8;have HPI:=hideL (fun W=>pieces_impl s size W hs);have HPL:=hideL (piecesR_length s size);have HRT:Hid (rootV s size=treeR (piecesR s size)):=rfl;rw[HF.o];clear HF;generalize rootV s size=R at HRF HRZ HRT ⊢;generalize piecesR s size=l at HPI HPL HRT;obtain⟨ans,hans⟩:∃ x,x=if fineB s.size size=true then oV s.size size R 0 else oV 0 0 ⟨#[]⟩ 1:=⟨_,rfl⟩;rw[<-hans];have HANS:=hideL hans;clear hans;go_enter func5,ntmps5
  go_wp2_with fail
  rw[<-hg];generalize hww:w.alloc (.cells #[.int .i64 0,.int .i64 0,.string ⟨#[]⟩,.int .i64 0] 28)=w0 at HR0 HL0 HV0 ⊢;clear hww hg;refine(HPI.o _).mono ?_;rintro e w1 ⟨v,rfl,ho,hb⟩;obtain⟨a,cap,hv,hcap,hi⟩:=ho.strs;obtain⟨n,hn⟩:∃ n,n=l.length:=⟨_,rfl⟩;rw[<-hn]at hv hcap;subst hv;have HN:=hideL hn;have S1:=hideL hi;have R1:=hideL (blkL HR0.o hb);have L1:=hideL (lowB HBE.o HL0.o hb);have V1:=hideL (vars_keep HV0.o hb);clear hn hi hb ho HR0 HL0 HV0
  go_wp2_with fail
  refine(treeHash_impl l n a cap w1.heap.size w1 HN.o.symm (by omega) (by have:=HPL.o;have:=HN.o;omega) S1.o nl V1.o).mono ?_;rw[<-HRT.o];rintro e w2 ⟨rfl,hb⟩;have R2:=hideL (blkL R1.o hb);have L2:=hideL (lowB HBE.o L1.o hb);clear hb R1 L1 V1 S1;have HRI:=hideL (fun W=>right_impl s.size size R W);rw[HRF.o]at HRI;unfold lV at HRI;have R3:Hid ((w2.alloc (.cells #[.int .i64 s.size,.int .i64 size,.string R] 26)).heap[g]? = some (.cells #[.int .i64 0,.int .i64 0,.string ⟨#[]⟩,.int .i64 0] 28 (0,0))):=blk_alloc R2.o _;have X3:Hid ((w2.alloc (.cells #[.int .i64 s.size,.int .i64 size,.string R] 26)).heap[w2.heap.size]? = some (.cells #[.int .i64 s.size,.int .i64 size,.string R] 26 (0,0))):=heap_alloc_new w2 _;have L3:Hid (Below g w (w2.alloc (.cells #[.int .i64 s.size,.int .i64 size,.string R] 26))):=lowB_alloc HBE.o L2.o _
  go_wp2_with fail
  generalize hww:w2.alloc (.cells #[.int .i64 s.size,.int .i64 size,.string R] 26)=w3 at R3 X3 L3 ⊢;generalize w2.heap.size=gx at X3 ⊢;clear hww R2 L2;refine(HRI.o _).mono ?_;rintro e w4 ⟨rfl,hb⟩;have R4:=hideL (blkL R3.o hb);have X4:=hideL (blkL X3.o hb);have L4:=hideL (lowB HBE.o L3.o hb);clear hb R3 X3 L3 HRF HRI;obtain⟨c0,c1,c2,c3⟩:=cells4 R4.o;obtain⟨d0,d1,d2⟩:=cells3 X4.o;have ff:=fun o=>frozen_of_row w4 g o _ _ R4.o
  cases hf:fineB s.size size with
  |false =>
   have HAN:Hid (ans=oV 0 0 ⟨#[]⟩ 1):=by rw[HANS.o,hf];exact if_neg (by decide)
   clear hf HANS;have s4:=set4_cells R4.o (.int .i64 0) (.int .i64 0) (.string ⟨#[]⟩) (.int .i64 1)
   go_wp2_with fail
   refine bodyPost_ret (v:=oV 0 0 ⟨#[]⟩ 1) (by simp[results,oV,results5,go_sem,s4.1,s4.2.1,s4.2.2.1,s4.2.2.2]) rfl ⟨by rw[HAN.o],?_⟩;rw[HBE.o];exact set4_low L4.o _ _ _ _
  |true =>
   have HAN:Hid (ans=oV s.size size R 0):=by rw[HANS.o,hf];exact if_pos rfl
   clear hf HANS;have s4:=set4_cells R4.o (.int .i64 s.size) (.int .i64 size) (.string R) (.int .i64 0)
   go_wp2_with fail
   refine bodyPost_ret (v:=oV s.size size R 0) (by simp[results,oV,results5,go_sem,s4.1,s4.2.1,s4.2.2.1,s4.2.2.2]) rfl ⟨by rw[HAN.o],?_⟩;rw[HBE.o];exact set4_low L4.o _ _ _ _
theorem treeOf_any (l:List ByteArray) (n:Nat) (a:Option Addr) (cap:Nat) (w:World) (hln:l.length=n) (hcap:n<=cap) (hn:n<=1048576) (hs:St.Strs w w.heap.size a l) :
  Calls prog 20 #[.slice a n cap] w fun e w'=>e=.returned (.string (treeR l))/\Below w.heap.size w w':=by
 have H:=hideL (treeHash_spec l n a cap w.heap.size w hln hcap hn hs nl);generalize treeR l=R at H ⊢;go_enter func20,ntmps20
 go_wp2_with fail
 refine H.o.mono ?_;rintro e w1 ⟨rfl,hb⟩;have HB:=hideL hb;clear hb
 go_wp2_with fail
 go_ret;exact⟨rfl,HB.o⟩
theorem of_spec (s:ByteArray) (size:Int) (w:World) (hs:s.size<=1048576) :
  Calls prog 6 #[.string s,.int .i64 size] w fun e w'=>e=.returned (ofV s size)/\Below w.heap.size w w':=by
 obtain⟨g,hg⟩:∃ g,g=w.heap.size:=⟨_,rfl⟩;have HBE:=hideL hg.symm
 have HR0:Hid ((w.alloc (.cells #[.int .i64 0,.int .i64 0,.string ⟨#[]⟩,.int .i64 0] 28)).heap[g]? = some (.cells #[.int .i64 0,.int .i64 0,.string ⟨#[]⟩,.int .i64 0] 28 (0,0))):=by rw[hg];exact heap_alloc_new w _
 have HL0:Hid (Below g w (w.alloc (.cells #[.int .i64 0,.int .i64 0,.string ⟨#[]⟩,.int .i64 0] 28))):=by rw[hg];exact(Below.refl _ _).alloc nl _
 by_cases h8:8000<s.size
 ·have HF:Hid (ofV s size=oV 0 0 ⟨#[]⟩ 2):=if_pos h8
  rw[HF.o];clear hg;go_enter func6,ntmps6
  go_wp2
  refine bodyPost_ret (v:=oV 0 0 ⟨#[]⟩ 2) (by simp[results,oV,results6,go_sem]) rfl ⟨rfl,?_⟩;exact(Below.refl _ _).alloc nl _
 ·have h8':decide ((8000:Int)<(s.size:Int))=false:=by simp;omega
  have HFI:=hideL (fun W=>fine_any s size W hs);have HF:Hid (ofV s size=if fineB s.size size=true then oV s.size size (rootV s size) 0 else oV 0 0 ⟨#[]⟩ 1):=if_neg h8;rw[HF.o];clear HF
  cases hf:fineB s.size size with
  |false =>
   rw[if_neg (by decide)];rw[hf]at HFI;go_enter func6,ntmps6
   go_wp2_with fail
   rw[<-hg];generalize hww:w.alloc (.cells #[.int .i64 0,.int .i64 0,.string ⟨#[]⟩,.int .i64 0] 28)=w0 at HR0 HL0 ⊢;clear hww hg;refine(HFI.o _).mono ?_;rintro e w1 ⟨rfl,hw⟩;subst w1;obtain⟨c0,c1,c2,c3⟩:=cells4 HR0.o;have ff:=fun o=>frozen_of_row w0 g o _ _ HR0.o;have s4:=set4_cells HR0.o (.int .i64 0) (.int .i64 0) (.string ⟨#[]⟩) (.int .i64 1)
   go_wp2_with fail
   refine bodyPost_ret (v:=oV 0 0 ⟨#[]⟩ 1) (by simp[results,oV,results6,go_sem,s4.1,s4.2.1,s4.2.2.1,s4.2.2.2]) rfl ⟨rfl,?_⟩;rw[HBE.o];exact set4_low HL0.o _ _ _ _
  |true =>
   rw[if_pos rfl];rw[hf]at HFI;have hfi:=of_decide_eq_true hf;obtain⟨k,hk⟩:=Int.eq_ofNat_of_zero_le (show 0<=size by omega);subst hk;have HPI:=hideL (fun W=>l06Pieces_any s k W hf);have HPL:=hideL (piecesR_length s (k:Int));have HRT:Hid (rootV s (k:Int)=treeR (piecesR s (k:Int))):=rfl;clear hf hfi;generalize rootV s (k:Int)=R at HRT ⊢;generalize piecesR s (k:Int)=l at HPI HPL HRT;go_enter func6,ntmps6
   go_wp2_with fail
   rw[<-hg];generalize hww:w.alloc (.cells #[.int .i64 0,.int .i64 0,.string ⟨#[]⟩,.int .i64 0] 28)=w0 at HR0 HL0 ⊢;clear hww hg;refine(HFI.o _).mono ?_;rintro e w1 ⟨rfl,hw⟩;subst w1
   go_wp2_with fail
   refine(HPI.o _).mono ?_;rintro e w1 ⟨v,rfl,ho,hb⟩;obtain⟨a,cap,hv,hcap,hi⟩:=ho.strs;obtain⟨n,hn⟩:∃ n,n=l.length:=⟨_,rfl⟩;rw[<-hn]at hv hcap;subst hv;have HN:=hideL hn;have S1:=hideL hi;have R1:=hideL (blkL HR0.o hb);have L1:=hideL (lowB HBE.o HL0.o hb);clear hn hi hb ho HR0 HL0
   go_wp2_with fail
   refine(treeOf_any l n a cap w1 HN.o.symm (by omega) (by have:=HPL.o;have:=HN.o;omega) S1.o).mono ?_;rw[<-HRT.o];rintro e w2 ⟨rfl,hb⟩;have R2:=hideL (blkL R1.o hb);have L2:=hideL (lowB HBE.o L1.o hb);clear hb R1 L1 S1;obtain⟨c0,c1,c2,c3⟩:=cells4 R2.o;have ff:=fun o=>frozen_of_row w2 g o _ _ R2.o;have s4:=set4_cells R2.o (.int .i64 s.size) (.int .i64 (k:Nat)) (.string R) (.int .i64 0)
   go_wp2_with fail
   refine bodyPost_ret (v:=oV s.size (k:Nat) R 0) (by simp[results,oV,results6,go_sem,s4.1,s4.2.1,s4.2.2.1,s4.2.2.2]) rfl ⟨rfl,?_⟩;rw[HBE.o];exact set4_low L2.o _ _ _ _
theorem ofV_form (s:ByteArray) (size:Int):∃ z b r c,ofV s size=oV z b r c:=by
 unfold ofV
 split
 ·exact⟨_,_,_,_,rfl⟩
 ·split<;>exact⟨_,_,_,_,rfl⟩
end Ls
namespace Kp
open Gn (rd rt run numR byteN rt_ok)
open Nm2 (num_back putS_list putT_list extract_list ba_ext size_of)
open Nu (putS putT zz numB)
open Pk (cat)
theorem byteN_app (s t:ByteArray) (p:Nat) (h:p<s.size):byteN (s++t) p=byteN s p:=by
 unfold byteN
 have hl:p<s.data.toList.length:=by rw[Array.length_toList];exact h
 rw[ByteArray.data_append,Array.toList_append];simp only[List.getD];rw[List.getElem?_append_left hl]
theorem run_app (s t:ByteArray):∀ f k p u,(run s f k p u).2.2=0->run (s++t) f k p u=run s f k p u:=by
 intro f
 induction f with
 |zero=>intro k p u h;exact absurd h (by rw[run];decide)
 |succ f ih =>
  intro k p u h;by_cases hp:s.size<=p
  ·rw[Gn.run_end s f k p u hp]at h
   exact absurd h (by decide)
  ·have hz:(s++t).size=s.size+t.size:=ByteArray.size_append
   rw[run,run,byteN_app s t p (by omega),if_neg (show ¬(s++t).size<=p by omega),if_neg hp];rw[run,if_neg hp]at h
   split
   ·rfl
   ·rename_i h1
    rw[if_neg h1]at h
    split
    ·rfl
    ·rename_i h2
     rw[if_neg h2]at h;exact ih _ _ _ h
theorem rd_app {s t:ByteArray} {a:Int} (h8:(s++t).size<=8000) (h:(rd s a).2.2=0):rd (s++t) a=rd s a:=by
 have hz:(s++t).size=s.size+t.size:=ByteArray.size_append;unfold rd at h ⊢;rw[if_neg (show ¬8000<s.size by omega)]at h ⊢;rw[if_neg (show ¬8000<(s++t).size by omega)]
 split
 ·rfl
 ·rename_i ha
  rw[if_neg ha]at h;unfold numR at h ⊢;rw[run_app s t 10 0 a.toNat 0 h]
theorem ext_app (s t:ByteArray) (a b:Nat) (h:b<=s.size):(s++t).extract a b=s.extract a b:=by
 apply ba_ext
 have hl:s.data.toList.length=s.size:=by rw[Array.length_toList];rfl
 rw[extract_list,extract_list,ByteArray.data_append,Array.toList_append];by_cases hab:a<=b
 ·rw[List.drop_append_of_le_length (by omega),List.take_append_of_le_length (by rw[List.length_drop];omega)]
 ·rw[show b-a=0 by omega]
  simp
theorem rt_app {s t:ByteArray} {a:Int} (h8:(s++t).size<=8000) (h:(rt s a).2.2=0):rt (s++t) a=rt s a:=by
 have hz:(s++t).size=s.size+t.size:=ByteArray.size_append;unfold rt at h ⊢
 split at h
 ·rename_i hc
  exact absurd h hc
 ·rename_i hc
  have hc0:(rd s a).2.2=0:=by
   by_cases q:(rd s a).2.2=0
   ·exact q
   ·exact absurd q hc
  rw[rd_app h8 hc0,if_neg hc,if_neg hc]
  split at h
  ·exact absurd h (by decide)
  ·rename_i h1
   rw[if_neg h1,if_neg h1]
   split at h
   ·exact absurd h (by decide)
   ·rename_i h2
    rw[if_neg h2,if_neg (by omega),ext_app s t _ _ (by omega)]
theorem recR_app {s t:ByteArray} {e:Nat} {x:Rec × Nat} (h8:(s++t).size<=8000) (h:recR s e=some x):recR (s++t) e=some x:=by
 have h0:(rt s e).2.2=0:=by
  unfold recR at h
  split at h
  ·rename_i hc
   exact hc.1
  ·cases h
 unfold recR at h ⊢;rw[rt_app h8 h0];exact h
theorem goR_app {fit:Rec->Bool} {s t:ByteArray} (h8:(s++t).size<=8000):∀ (f e:Nat) (out:List Rec),e<=s.size->s.size-e<=f->(goR fit s f out e).2=s.size->goR fit (s++t) ((s++t).size-e) out e=goR fit (s++t) ((s++t).size-s.size) (goR fit s f out e).1 s.size:=by
 have hz:(s++t).size=s.size+t.size:=ByteArray.size_append;intro f
 induction f with
 |zero =>
  intro e out h1 h2 h3
  obtain rfl:e=s.size:=by omega
  rw[goR_end nl]
 |succ f ih =>
  intro e out h1 h2 h3;by_cases he:s.size<=e
  ·obtain rfl:e=s.size:=by omega
   rw[goR_end nl]
  ·cases hr:recR s e with
   |none=>rw[goR_none hr]at h3;exact absurd h3 (by show ¬e=s.size;omega)
   |some x =>
    by_cases hb:fit x.1=true/\hasR out x.1.1=false
    ·have hf:=recR_facts hr
     have e1:goR fit s (f+1) out e=goR fit s f (out++[x.1]) x.2:=by
      rw[goR,if_pos (by omega),hr];exact if_pos hb
     rw[e1]at h3 ⊢;rw[goR_step (recR_app h8 hr) hb.1 hb.2];exact ih x.2 _ (by omega) (by omega) h3
    ·rw[goR_bad hr hb]at h3;exact absurd h3 (by show ¬e=s.size;omega)
theorem rt_mid (s u:ByteArray) (pre post:List UInt8) (hu:u.size<=8000) (hs:s.size<=8000) (h:s.data.toList=pre++((putT u).data.toList++post)):rt s (pre.length:Nat)=(u,pre.length+(putT u).size,0):=by
 have hl:s.data.toList=pre++(numB (zz (u.size:Int))++(u.data.toList++post)):=by rw[h,putT_list u hu,List.append_assoc]
 have hr:=num_back s (u.size:Int) pre (u.data.toList++post) (by omega) (by omega) hs hl
 have hul:u.data.toList.length=u.size:=by rw[Array.length_toList];rfl
 have hz:pre.length+(putS (u.size:Int)).size+u.size<=s.size:=by
  rw[size_of s,hl,Nm2.putS_len];simp only[List.length_append];omega
 have he:s.extract (pre.length+(putS (u.size:Int)).size) (pre.length+(putS (u.size:Int)).size+u.size)=u:=by
  apply ba_ext
  rw[extract_list,hl,<-List.append_assoc,List.drop_left' (by rw[List.length_append,Nm2.putS_len]),show pre.length+(putS (u.size:Int)).size+u.size-(pre.length+(putS (u.size:Int)).size)=u.size by omega,List.take_append_of_le_length (by omega),List.take_of_length_le (by omega)]
 rw[rt_ok s _ u.size _ hr hu (by omega),he,Nm2.putT_size u hu,Nat.add_assoc]
theorem cat_cons (a:ByteArray) (l:List ByteArray):cat (a :: l)=a.data.toList++cat l:=by simp[cat]
theorem pathR_mid {s:ByteArray} (hs:s.size<=8000):∀ (q:List ByteArray) (pre post:List UInt8) (l:List ByteArray),(∀ x∈q,x.size<=8000)->s.data.toList=pre++(cat (q.map putT)++post)->pathR s q.length pre.length l=some (l++q,pre.length+(cat (q.map putT)).length)
 |[],pre,post,l,hq,h=>by
  show some (l,pre.length)=_
  simp[cat]
 |a :: q,pre,post,l,hq,h=>by
  rw[List.map_cons,cat_cons]at h ⊢;have hr:=rt_mid s a pre (cat (q.map putT)++post) (hq a List.mem_cons_self) hs (by rw[h,List.append_assoc])
  have hc:(putT a).size=(putT a).data.toList.length:=by rw[Array.length_toList];rfl
  rw[List.length_cons,pathR_yes (by rw[hr]),hr];have ih:=pathR_mid hs q (pre++(putT a).data.toList) post (l++[a]) (fun x hx=>hq x (List.mem_cons_of_mem _ hx)) (by rw[h];simp only[List.append_assoc]);rw[List.length_append,<-hc]at ih
  show pathR s q.length (pre.length+(putT a).size) (l++[a])=_
  rw[ih,List.length_append,<-hc,List.append_assoc,Nat.add_assoc];rfl
structure RecS (x:Rec):Prop where
 lo:-9223372036854775808<=x.1
 hi:x.1<=9223372036854775807
 pc:x.2.1.size<=8000
 len:x.2.2.length<=20
 all:∀ q∈x.2.2,q.size<=8000
theorem innerT_list (x:Rec):(innerT x).data.toList=numB (zz x.1)++((putT x.2.1).data.toList++(numB (zz (x.2.2.length:Nat))++(cat (x.2.2.map putT)++[]))):=by
 unfold innerT partsR
 show cat _=_
 rw[List.take_length]
 show cat (putS x.1 :: putT x.2.1 :: putS (x.2.2.length:Nat) :: x.2.2.map putT)=_
 rw[cat_cons,cat_cons,cat_cons,putS_list,putS_list,List.append_nil]
theorem innerR_back {x:Rec} (h:RecS x) (hs:(innerT x).size<=8000):innerR (innerT x)=some x:=by
 obtain⟨i,t,p⟩:=x;have hl:=innerT_list (i,t,p);dsimp only at hl;have e1:(putS i).size=(numB (zz i)).length:=Nm2.putS_len i
 have e2:(putT t).size=(putT t).data.toList.length:=by rw[Array.length_toList];rfl
 have e3:(putS ((p.length:Nat):Int)).size=(numB (zz (p.length:Nat))).length:=Nm2.putS_len _
 have h1:rd (innerT (i,t,p)) 0=(i,(putS i).size,0):=by
  have:=num_back _ i [] _ h.lo h.hi hs (by rw[hl];rfl)
  simpa using this
 have h2:rt (innerT (i,t,p)) ((putS i).size:Nat)=(t,(putS i).size+(putT t).size,0):=by
  have:=rt_mid _ t (numB (zz i)) _ h.pc hs hl
  rw[<-e1]at this;exact this
 have h3:rd (innerT (i,t,p)) (((putS i).size+(putT t).size:Nat):Int)=(((p.length:Nat):Int),(putS i).size+(putT t).size+(putS ((p.length:Nat):Int)).size,0):=by
  have:=num_back _ ((p.length:Nat):Int) (numB (zz i)++(putT t).data.toList) (cat (p.map putT)++[]) (by omega) (by have:=h.len;dsimp only at this;omega) hs (by rw[hl];simp only[List.append_assoc])
  rw[List.length_append,<-e1,<-e2]at this;exact this
 have h4:pathR (innerT (i,t,p)) p.length ((putS i).size+(putT t).size+(putS ((p.length:Nat):Int)).size) []=some (p,(putS i).size+(putT t).size+(putS ((p.length:Nat):Int)).size+(cat (p.map putT)).length):=by
  have:=pathR_mid hs p (numB (zz i)++((putT t).data.toList++numB (zz (p.length:Nat)))) [] [] h.all (by rw[hl];simp only[List.append_assoc])
  rw[List.length_append,List.length_append,<-e1,<-e2,<-e3,<-Nat.add_assoc]at this
  simpa using this
 have h5:(innerT (i,t,p)).size=(putS i).size+(putT t).size+(putS ((p.length:Nat):Int)).size+(cat (p.map putT)).length:=by
  rw[size_of,hl];simp only[List.length_append,List.length_nil];omega
 unfold innerR
 have hok:innerOk (innerT (i,t,p)):=by
  unfold innerOk;have hlen:=h.len;dsimp only at hlen;rw[h1];dsimp only;rw[h2];dsimp only;rw[h3];dsimp only;exact⟨rfl,rfl,rfl,by omega,by omega⟩
 rw[if_pos hok,h1];dsimp only;rw[h2];dsimp only;rw[h3];dsimp only;rw[Int.toNat_natCast,h4];dsimp only;rw[if_pos h5.symm]
theorem us_seal {t:ByteArray} (h:t.size<=7996):usC (Se.sealV t)=0/\usT (Se.sealV t)=t/\(Se.sealV t).size<=8000:=by
 have e:Se.sealV t=t++Se.fourS (Se.crcOf t):=by unfold Se.sealV;rw[if_pos h]
 have hz:(Se.sealV t).size=t.size+4:=by rw[e,ByteArray.size_append,Se.fourS_size]
 have hx:(Se.sealV t).extract 0 ((Se.sealV t).size-4)=t:=by
  rw[hz,Nat.add_sub_cancel,e,ext_app _ _ _ _ nl]
  apply ba_ext
  rw[extract_list]
  have:t.data.toList.length=t.size:=by rw[Array.length_toList];rfl
  simp;rw[List.take_of_length_le (by omega)]
 unfold usC usT
 have a1:¬8000<(Se.sealV t).size:=by omega
 have a2:¬(Se.sealV t).size<4:=by omega
 simp only[if_neg a1,if_neg a2,hx];simp;omega
theorem recR_back {s:ByteArray} {x:Rec} (h:RecS x) (hi:(innerT x).size<=7996) (hs:s.size<=8000) (pre post:List UInt8) (hl:s.data.toList=pre++((recT x).data.toList++post)):recR s pre.length=some (x,pre.length+(recT x).size):=by
 obtain⟨u1,u2,u3⟩:=us_seal hi;have hr:=rt_mid s (Se.sealV (innerT x)) pre post u3 hs hl;unfold recR;rw[hr];dsimp only;rw[if_pos ⟨rfl,u1⟩,u2,innerR_back h (by omega)];rfl
theorem allR_add {fit:Rec->Bool} {s:ByteArray} {x:Rec} (h:(allR fit s).2=s.size) (hr:RecS x) (hi:(innerT x).size<=7996) (hf:fit x=true) (hn:hasR (allR fit s).1 x.1=false) (h8:(s++recT x).size<=8000):allR fit (s++recT x)=((allR fit s).1++[x],(s++recT x).size):=by
 have hz:(s++recT x).size=s.size+(recT x).size:=ByteArray.size_append;have e:=goR_app h8 (s.size-0) 0 [] (Nat.zero_le _) nl h;have hsl:s.size=s.data.toList.length:=size_of s;have hb:=recR_back hr hi h8 s.data.toList [] (by rw[ByteArray.data_append,Array.toList_append,List.append_nil]);rw[<-hsl]at hb;unfold allR at hn ⊢;rw[e,goR_step hb hf hn];rw[goR_end (by dsimp only;omega)];dsimp only;rw[hz]
end Kp
namespace Tr
open St
open Sh (Vars)
end Tr
namespace Tr
open St
open Sh (Vars own_empty)
theorem pathR_yes (l:List ByteArray) (i:Nat) (h:right l=true) (hi:i<l.length):pathR l i=path l i:=by
 unfold pathR;rw[if_pos ⟨h,by omega,by omega⟩];rfl
theorem pathR_no (l:List ByteArray) (i:Int) (h:¬(right l=true/\0<=i/\i<l.length)):pathR l i=[]:=if_neg h
theorem pathOf_spec (l:List ByteArray) (n:Nat) (i:Int) (a:Option Addr) (cap B:Nat) (w:World) (hln:l.length=n) (hcap:n<=cap) (hn:n<=1048576) (hs:Strs w B a l) (hB:B<=w.heap.size) :
  Calls prog 12 #[.slice a n cap,.int .i64 i] w fun e w'=>∃ v,e=.returned v/\OwnS w' w.heap.size v (pathR l i)/\Below w.heap.size w w':=by
 have HR:=hideT (right_spec a cap l w B hs (by omega));rw[hln]at HR;have HS:=hideT hs;clear hs;by_cases h400:400<n
 ·have HT:=hideT (pathR_no l i (fun h=>by have:=((right_yes l).1 h.1).1;omega))
  go_enter func12,ntmps12
  go_wp2_with fail
  go_ret;exact⟨_,rfl,by rw[HT.o];exact own_empty _ _ _ nl,(Below.refl _ _).alloc nl _⟩
 ·cases hr:right l with
  |false =>
   have HT:=hideT (pathR_no l i (fun h=>by rw[hr]at h;cases h.1));rw[hr]at HR;go_enter func12,ntmps12
   go_wp2_with fail
   refine HR.o.mono ?_;rintro e w1 ⟨rfl,hw⟩;subst w1
   go_wp2_with fail
   go_ret;exact⟨_,rfl,by rw[HT.o];exact own_empty _ _ _ nl,(Below.refl _ _).alloc nl _⟩
  |true =>
   have HY:=hideT ((right_yes l).1 hr);rw[hr]at HR;by_cases h0:i<0
   ·have HT:=hideT (pathR_no l i (fun h=>by omega))
    go_enter func12,ntmps12;(go_wp2_with fail);refine HR.o.mono ?_;rintro e w1 ⟨rfl,hw⟩;subst w1;(go_wp2_with fail);go_ret;exact⟨_,rfl,by rw[HT.o];exact own_empty _ _ _ nl,(Below.refl _ _).alloc nl _⟩
   ·by_cases h1:(n:Int)<=i
    ·have HT:=hideT (pathR_no l i (fun h=>by omega))
     go_enter func12,ntmps12;(go_wp2_with fail);refine HR.o.mono ?_;rintro e w1 ⟨rfl,hw⟩;subst w1;(go_wp2_with fail);go_ret;exact⟨_,rfl,by rw[HT.o];exact own_empty _ _ _ nl,(Below.refl _ _).alloc nl _⟩
    ·obtain⟨k,rfl⟩:∃ k:Nat,i=k:=⟨i.toNat,by omega⟩
     have HT:=hideT (pathR_yes l k hr (by omega));go_enter func12,ntmps12;(go_wp2_with fail);refine HR.o.mono ?_;rintro e w1 ⟨rfl,hw⟩;subst w1;(go_wp2_with fail);refine(path_spec n n k l a cap B _ nl hln (by omega) (by omega) hcap (by have:=HY.o.1;omega) HY.o.2 HS.o hB).mono ?_;rintro e w2 ⟨v,rfl,ho2,hb2⟩;have HO2:=hideT ho2;clear ho2;(go_wp2_with fail);go_ret;exact⟨_,rfl,by rw[HT.o];exact HO2.o,hb2⟩
end Tr
end Go.Proofs.YtbdcffjcogglbaaGreatDoor
