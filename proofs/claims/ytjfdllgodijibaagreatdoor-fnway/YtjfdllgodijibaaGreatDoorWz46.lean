/- Texts put together: LsOf. -/
import Derived.Test.YtjfdllgodijibaaGreatDoorWz34
import Derived.Test.YtjfdllgodijibaaGreatDoorWz45
import Derived.Test.YtjfdllgodijibaaGreatDoorWz12
set_option maxRecDepth 100000
set_option maxHeartbeats 8000000
namespace Go.Proofs.YtjfdllgodijibaaGreatDoor.Ls
open Go.RowKit
open Pk (piecesR piecesR_length l06Pieces_any packB innerV blocks_size)
open Bk (fineB fine_any blocksR)
open Tr (treeR tree right right_yes treeR_yes tree_size treeHash_spec)
open Sh (Vars)
open Se (sealV)
noncomputable def rootV (s:ByteArray) (size:Int):ByteArray:=treeR (piecesR s size)
noncomputable def ofV (s:ByteArray) (size:Int):Value:=if 8000<s.size then oV 0 0 ⟨#[]⟩ 2 else if fineB s.size size=true then oV s.size size (rootV s size) 0 else oV 0 0 ⟨#[]⟩ 1
theorem pack_size (b:ByteArray):(packB b).size<=53:=by
 unfold packB
 split
 ·decide
 ·have h2:(innerV b).size<=49:=by
   unfold innerV
   split
   ·omega
   ·rw[Pk.plainV_size];omega
  unfold sealV
  rw[if_pos (by omega),ByteArray.size_append,Se.fourS_size]
  omega
theorem pieces_right (s:ByteArray) (size:Int):right (piecesR s size)=true:=by
 refine(right_yes _).2 ⟨piecesR_length s size,fun j h=>?_⟩
 have hm:∀ x∈piecesR s size,x.size<=100:=fun x hx=>by
  obtain⟨b,_,hb⟩:=List.mem_map.1 hx
  rw[<-hb]
  have:=pack_size b
  omega
 exact hm _ (List.getElem_mem h)
theorem root_size (s:ByteArray) (size:Int):(rootV s size).size=32:=by
 unfold rootV
 rw[treeR_yes _ (pieces_right s size),tree_size]
theorem treeOf_any (l:List ByteArray) (n:Nat) (a:Option Addr) (cap:Nat) (w:World) (hln:l.length=n) (hcap:n<=cap) (hn:n<=1048576) (hs:St.Strs w w.heap.size a l) :
  Calls Tryz.prog 47 #[.slice a n cap] w fun e w'=>e=.returned (.string (treeR l))/\Below w.heap.size w w':=by
 have H:=hideL (treeHash_spec l n a cap w.heap.size w hln hcap hn hs (Nat.le_refl _))
 generalize treeR l=R at H ⊢
 go_enter Tryz.func47,Tryz.ntmps47
 go_wp2_with fail
 refine H.out.mono ?_
 rintro e w1 ⟨rfl,hb⟩
 have HB:=hideL hb
 clear hb
 go_wp2_with fail
 go_ret
 exact⟨rfl,HB.out⟩
theorem of_spec (s:ByteArray) (size:Int) (w:World) (hs:s.size<=1048576) :
  Calls Tryz.prog 30 #[.string s,.int .i64 size] w fun e w'=>e=.returned (ofV s size)/\Below w.heap.size w w':=by
 obtain⟨g,hg⟩:∃ g,g=w.heap.size:=⟨_,rfl⟩
 have HBE:=hideL hg.symm
 have HR0:Hid ((w.alloc (.cells #[.int .i64 0,.int .i64 0,.string ⟨#[]⟩,.int .i64 0] 64)).heap[g]? = some (.cells #[.int .i64 0,.int .i64 0,.string ⟨#[]⟩,.int .i64 0] 64 (0,0))):=by rw[hg];exact heap_alloc_new w _
 have HL0:Hid (Below g w (w.alloc (.cells #[.int .i64 0,.int .i64 0,.string ⟨#[]⟩,.int .i64 0] 64))):=by rw[hg];exact(Below.refl _ _).alloc (Nat.le_refl _) _
 by_cases h8:8000<s.size
 ·have HF:Hid (ofV s size=oV 0 0 ⟨#[]⟩ 2):=if_pos h8
  rw[HF.out]
  clear hg
  go_enter Tryz.func30,Tryz.ntmps30
  go_wp2
  refine bodyPost_ret (v:=oV 0 0 ⟨#[]⟩ 2) (by simp[results,oV,Tryz.results30,go_sem]) rfl ⟨rfl,?_⟩
  exact(Below.refl _ _).alloc (Nat.le_refl _) _
 ·have h8':decide ((8000:Int)<(s.size:Int))=false:=by simp;omega
  have HFI:=hideL (fun W=>fine_any s size W hs)
  have HF:Hid (ofV s size=if fineB s.size size=true then oV s.size size (rootV s size) 0 else oV 0 0 ⟨#[]⟩ 1):=if_neg h8
  rw[HF.out]
  clear HF
  cases hf:fineB s.size size with
  |false =>
   rw[if_neg (by decide)]
   rw[hf]at HFI
   go_enter Tryz.func30,Tryz.ntmps30
   go_wp2_with fail
   rw[<-hg]
   generalize hww:w.alloc (.cells #[.int .i64 0,.int .i64 0,.string ⟨#[]⟩,.int .i64 0] 64)=w0 at HR0 HL0 ⊢
   clear hww hg
   refine(HFI.out _).mono ?_
   rintro e w1 ⟨rfl,hw⟩
   subst w1
   obtain⟨c0,c1,c2,c3⟩:=cells4 HR0.out
   have ff:=fun o=>frozen_of_row w0 g o _ _ HR0.out
   have s4:=set4_cells HR0.out (.int .i64 0) (.int .i64 0) (.string ⟨#[]⟩) (.int .i64 1)
   go_wp2_with fail
   refine bodyPost_ret (v:=oV 0 0 ⟨#[]⟩ 1) (by simp[results,oV,Tryz.results30,go_sem,s4.1,s4.2.1,s4.2.2.1,s4.2.2.2]) rfl ⟨rfl,?_⟩
   rw[HBE.out]
   exact set4_low HL0.out _ _ _ _
  |true =>
   rw[if_pos rfl]
   rw[hf]at HFI
   have hfi:=of_decide_eq_true hf
   obtain⟨k,hk⟩:=Int.eq_ofNat_of_zero_le (show 0<=size by omega)
   subst hk
   have HPI:=hideL (fun W=>l06Pieces_any s k W hf)
   have HPL:=hideL (piecesR_length s (k:Int))
   have HRT:Hid (rootV s (k:Int)=treeR (piecesR s (k:Int))):=rfl
   clear hf hfi
   generalize rootV s (k:Int)=R at HRT ⊢
   generalize piecesR s (k:Int)=l at HPI HPL HRT
   go_enter Tryz.func30,Tryz.ntmps30
   go_wp2_with fail
   rw[<-hg]
   generalize hww:w.alloc (.cells #[.int .i64 0,.int .i64 0,.string ⟨#[]⟩,.int .i64 0] 64)=w0 at HR0 HL0 ⊢
   clear hww hg
   refine(HFI.out _).mono ?_
   rintro e w1 ⟨rfl,hw⟩
   subst w1
   go_wp2_with fail
   refine(HPI.out _).mono ?_
   rintro e w1 ⟨v,rfl,ho,hb⟩
   obtain⟨a,cap,hv,hcap,hi⟩:=ho.strs
   obtain⟨n,hn⟩:∃ n,n=l.length:=⟨_,rfl⟩
   rw[<-hn]at hv hcap
   subst hv
   have HN:=hideL hn
   have S1:=hideL hi
   have R1:=hideL (blkL HR0.out hb)
   have L1:=hideL (lowB HBE.out HL0.out hb)
   clear hn hi hb ho HR0 HL0
   go_wp2_with fail
   refine(treeOf_any l n a cap w1 HN.out.symm (by omega) (by have:=HPL.out;have:=HN.out;omega) S1.out).mono ?_
   rw[<-HRT.out]
   rintro e w2 ⟨rfl,hb⟩
   have R2:=hideL (blkL R1.out hb)
   have L2:=hideL (lowB HBE.out L1.out hb)
   clear hb R1 L1 S1
   obtain⟨c0,c1,c2,c3⟩:=cells4 R2.out
   have ff:=fun o=>frozen_of_row w2 g o _ _ R2.out
   have s4:=set4_cells R2.out (.int .i64 s.size) (.int .i64 (k:Nat)) (.string R) (.int .i64 0)
   go_wp2_with fail
   refine bodyPost_ret (v:=oV s.size (k:Nat) R 0) (by simp[results,oV,Tryz.results30,go_sem,s4.1,s4.2.1,s4.2.2.1,s4.2.2.2]) rfl ⟨rfl,?_⟩
   rw[HBE.out]
   exact set4_low L2.out _ _ _ _
end Go.Proofs.YtjfdllgodijibaaGreatDoor.Ls

