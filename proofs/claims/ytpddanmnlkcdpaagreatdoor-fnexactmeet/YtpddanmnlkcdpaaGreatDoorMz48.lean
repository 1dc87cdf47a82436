/- Texts put together: PmMeetS. -/
import Derived.Test.YtpddanmnlkcdpaaGreatDoorMz46
import Derived.Test.YtpddanmnlkcdpaaGreatDoorMz47
import Derived.Test.YtpddanmnlkcdpaaGreatDoorMz42
import Derived.Deep.CutBlock
set_option maxRecDepth 100000
set_option maxHeartbeats 8000000
namespace Go.Proofs.YtpddanmnlkcdpaaGreatDoor.Pl
open Go.RowKit
open Kp
open Pe
open Pm
open In (Ints OwnI)
open Go.Proofs.YtpddanmnlkcdpaaGreatDoor.Nm (nameB)
open Tr (wpList_append_opt)
open Ap (KeepE keepE_own)
open Ls (lowL blk_alloc)
theorem ownO_lit (W:World):OwnO (W.alloc (.cells #[] 86)) W.heap.size (.slice (some ⟨W.heap.size,0,none⟩) 0 0) [] :=
 ⟨rfl,.inr ⟨W.heap.size,0,#[],rfl,Nat.le_refl _,heap_alloc_new W _,Nat.le_refl _,by decide,rfl,rfl⟩⟩
theorem ownL_lit (W:World):OwnL (W.alloc (.cells #[] 114)) W.heap.size (.slice (some ⟨W.heap.size,0,none⟩) 0 0) [] :=
 ⟨rfl,.inr ⟨W.heap.size,0,#[],rfl,Nat.le_refl _,heap_alloc_new W _,Nat.le_refl _,by decide,rfl,rfl⟩⟩
theorem newsO {W:World} {base n cap:Nat} {a:Option Addr} {m:List MO} (h:OwnO W base (.slice a n cap) m) (k:Nat) (hk:k<=m.length) :
  (∀ d,a=some d->∀ j u,(cellsO (m.take k))[j]? = some u->W.cell? (d.add j)=some u)/\(∀ d,a=some d->∀ j u,(cellsO (m.drop k))[j]? = some u->W.cell? ((d.add (k*5)).add j)=some u):=by
 have hh:=h
 have key:∀ d,a=some d->d.block<W.heap.size/\d=⟨d.block,0,none⟩/\∀ j u,(cellsO m)[j]? = some u->W.cell? ⟨d.block,j,none⟩=some u:=fun d hd=>by
  subst hd
  obtain⟨hl,h'⟩:=h
  rcases h' with⟨h',_⟩|⟨g,cap',cur,hv,_,hb,_⟩
  ·cases h'
  ·obtain rfl:d=⟨g,0,none⟩:=by simp at hv;exact hv.1
   refine⟨lt_rowK hb,rfl,fun j u hu=>?_⟩
   have:=World.ownsRow.cells hh (g:=g) rfl j u hu
   rwa[Addr.add_lit,Nat.zero_add]at this
 refine⟨fun d hd j u hu=>?_,fun d hd j u hu=>?_⟩
 ·obtain⟨_,hd0,hc⟩:=key d hd
  rw[hd0,Addr.add_lit,Nat.zero_add]
  refine hc j u ?_
  rw[<-(cellsO_take m k hk).1,List.getElem?_take]at hu
  split at hu
  ·exact hu
  ·cases hu
 ·obtain⟨_,hd0,hc⟩:=key d hd
  rw[hd0,Addr.add_lit,Addr.add_lit,Nat.zero_add]
  refine hc _ u ?_
  rw[<-(cellsO_take m k hk).2,List.getElem?_drop]at hu
  exact hu
theorem meetG_spec (w W:World) (gg:Nat) (z b:Int) (r s:ByteArray) (y:Int) (ao:Option Addr) (n co:Nat) (va:Value) (mo:List MO) (mr:List MR) (nm:ByteArray) (hg:Game w W gg z b r s y ao n co va mo mr) (hm:mo.length=n) (hn:n<=1048575) (hr:mr.length<=1048576) :
  Calls Tryz.prog 30 #[.pointer (some ⟨gg,0,none⟩),.string nm] W fun e w'=>∃ vs ms ao' co' mo',e=.returned vs/\Game w w' gg z b r s y ao' (n+1) co' va mo' mr/\oths mo'=meetO (oths mo) nm/\OwnL w' W.heap.size vs ms/\snts ms=(Kh.sortZ (idxs mr)).map (letterH nm)/\∀ x∈ms,x.2=.slice none 0 0/\x.1.path=[]:=by
 obtain⟨j0,hj0,ho0,ho1,ho2⟩:=info_parts Tryz.infoOther
 obtain⟨i0,hi0,hz0,hz1,hz2⟩:=info_parts Tryz.infoSent
 have GM:=hideK hg
 have HM:=hideK hm
 have HMR:=hideK hr
 obtain⟨ao1,co1,hvo,hco,hnone⟩:=hg.orow.one
 obtain⟨rfl,rfl⟩:ao=ao1/\co=co1:=by simp at hvo;exact⟨hvo.1,hvo.2.2⟩
 rw[hm]at hco
 have hw0:=hg.low.size
 have c5:W.cell? ⟨gg,5,none⟩=some (.slice ao n co):=cell_of_row W gg 5 _ _ _ (by have:=hg.blk;unfold gmB at this;exact this)
 clear hg hm hr hvo
 go_enter Tryz.func30,Tryz.ntmps30
 go_upto_block 0 with fail
 go_cut [6] from 16 to 30 (fun kv wx=>∃ k:Nat,kv=.int .i64 k/\k<=n/\posN (oths mo) nm=k/\wx=W)
 case first =>
  go_wp2_with fail
  go_loopw [6] (fun kv wr=>∃ k:Nat,kv=.int .i64 k/\k<=n/\(∀ t (ht:t<mo.length),t<k->ltN mo[t].1.name nm=true)/\wr=W) (fun kv _=>n-(intOf kv).toNat)
  case atStart=>exact⟨0,rfl,Nat.zero_le _,fun t _ h=>absurd h (by omega),rfl⟩
  case round =>
   obtain⟨k,rfl,hk,hlo,hw⟩:=hrel
   subst hw
   have HLO:=hideK hlo
   clear hlo
   have hwk:IntKind.i64.wrap ((k:Int)+1)=(k:Int)+1:=by rw[IntKind.wrap_i64];omega
   by_cases hgo:∃ h:k<mo.length,ltN mo[k].1.name nm=true
   ·obtain⟨hkl,hgl⟩:=hgo
    have hlt:k<n:=by have:=HM.out;omega
    have hlt':(k:Int)<(n:Int):=by omega
    obtain⟨g,cp,hv,_,hgs,_,hcc⟩:=GM.out.orow.cells (by omega)
    obtain⟨rfl,_⟩:ao=some ⟨g,0,none⟩/\co=cp:=by simp at hv;exact⟨hv.1,hv.2.2⟩
    obtain⟨d0,_,_,_,_⟩:=hcc k hkl
    have HNX:Hid (∀ t (ht:t<mo.length),t<k+1->ltN mo[t].1.name nm=true):=fun t ht htk=>by
     by_cases e:t=k
     ·subst e;exact hgl
     ·exact HLO.out t ht (by omega)
    unfold ltN at hgl
    generalize mo[k].1.name=qn at d0 hgl
    clear hcc HLO hv
    go_wp2_with fail
    go_roundw
    case rel=>exact⟨k+1,by go_num,by omega,HNX.out,by trivial⟩
    case measure=>simp[intOf];omega
   ·have HPO:Hid (posN (oths mo) nm=k):=by
     refine posN_of (by rw[oths_length,HM.out];exact hk) (fun t ht hti=>?_) (fun ht=>?_)
     ·rw[oths_get mo t (by rw[oths_length]at ht;exact ht)]
      exact HLO.out t _ hti
     ·rw[oths_length]at ht
      rw[oths_get mo k ht]
      cases q:ltN mo[k].1.name nm with
      |false=>rfl
      |true=>exact absurd ⟨ht,q⟩ hgo
    have hnlt:∀ h:k<mo.length,ltN mo[k].1.name nm=false:=fun h=>by
     cases q:ltN mo[k].1.name nm with
     |false=>rfl
     |true=>exact absurd ⟨h,q⟩ hgo
    clear hgo
    by_cases hlt:k<n
    ·have hlt':(k:Int)<(n:Int):=by omega
     have hkm:k<mo.length:=by have:=HM.out;omega
     obtain⟨g,cp,hv,_,hgs,_,hcc⟩:=GM.out.orow.cells (by have:=HM.out;omega)
     obtain⟨rfl,_⟩:ao=some ⟨g,0,none⟩/\co=cp:=by simp at hv;exact⟨hv.1,hv.2.2⟩
     obtain⟨d0,_,_,_,_⟩:=hcc k hkm
     have hnl:=hnlt hkm
     unfold ltN at hnl
     generalize mo[k].1.name=qn at d0 hnl
     clear hcc hv hnlt
     go_wp2_with fail
     go_meet
     exact⟨k,rfl,hk,HPO.out,by trivial⟩
    ·have hltD:decide ((k:Int)<(n:Int))=false:=by simp;omega
     have hlt2:¬(k:Int)<(n:Int):=by omega
     clear hnlt
     go_wp2_with fail
     go_meet
     exact⟨k,rfl,hk,HPO.out,by trivial⟩
 case rest =>
  obtain⟨k,rfl,hk,hpo,hwx⟩:=hcut
  have hwx2:=hwx.symm
  clear hwx
  subst hwx2
  have HPO:Hid (posN (oths mo) nm=k):=hpo
  clear hpo
  have hkc:k<=co:=by omega
  have hkc':(k:Int)<=(co:Int):=by omega
  have hkn':(k:Int)<=(n:Int):=by omega
  have HOO:=hideK (newsO GM.out.orow k (by rw[HM.out];exact hk))
  have HN0:Hid (ao=none->k=0/\co=0):=fun h=>by have:=hnone h;omega
  have HTL:Hid ((cellsO (mo.take k)).length=k*5):=by unfold Hid;rw[cellsO_length,List.length_take,HM.out];omega
  have HDL:Hid ((cellsO (mo.drop k)).length=(n-k)*5):=by unfold Hid;rw[cellsO_length,List.length_drop,HM.out]
  have H1T:Hid (∀ u∈cellsO (mo.take k),u.oneCell'=true):=cellsO_one _ fun x hx=>ownI_oneC (GM.out.has x (List.mem_of_mem_take hx))
  have H1D:Hid (∀ u∈cellsO (mo.drop k),u.oneCell'=true):=cellsO_one _ fun x hx=>ownI_oneC (GM.out.has x (List.mem_of_mem_drop hx))
  have HEQ:Hid (oths (mo.take k++[(newO nm,Value.slice none 0 0)]++mo.drop k)=meetO (oths mo) nm):=by
   unfold Hid meetO
   rw[oths_ins,HPO.out]
  have HAP:=hideK (apart_ins (x:=(newO nm,Value.slice none 0 0)) k GM.out.ap rfl)
  have HHA:Hid (∀ W,Hass W w.heap.size mo->Hass W w.heap.size (mo.take k++[(newO nm,Value.slice none 0 0)]++mo.drop k)):=fun W hW x hx=>by
   rcases List.mem_append.1 hx with hx|hx
   ·rcases List.mem_append.1 hx with hx|hx
    ·exact hW x (List.mem_of_mem_take hx)
    ·rw[List.mem_singleton.1 hx]
     exact OwnI.nil _ _
   ·exact hW x (List.mem_of_mem_drop hx)
  have HINS:Hid (∀ (W':World) (v:Value),W'.ownsRow W.heap.size 86 5 v (k+1+(n-k)) (cellsO (mo.take k)++[.string nm,.slice none 0 0,.int .i64 0,.int .i64 0,.int .i64 0]++cellsO (mo.drop k))->OwnO W' W.heap.size v (mo.take k++[(newO nm,Value.slice none 0 0)]++mo.drop k)):=fun W' v h=>by
   unfold OwnO
   rw[cellsO_append,cellsO_append,show (mo.take k++[(newO nm,Value.slice none 0 0)]++mo.drop k).length=k+1+(n-k) by rw[List.length_append,List.length_append,List.length_take,List.length_drop,HM.out];simp;omega]
   exact h
  obtain⟨ar,cr,hva,_⟩:=GM.out.rrow.one
  have HLS:Hid ((Kh.sortZ (idxs mr)).length<=1048576):=by unfold Hid;rw[Kh.sortZ_length];unfold idxs;rw[List.length_map];exact HMR.out
  have hggl:=lt_rowK GM.out.blk
  have HGME:Hid (∀ (w3:World) (a3:Option Addr) (c3:Nat),Below W.heap.size W w3->OwnO w3 W.heap.size (.slice a3 (n+1) c3) (mo.take k++[(newO nm,Value.slice none 0 0)]++mo.drop k)->Game w (w3.setCell ⟨gg,5,none⟩ (.slice a3 (n+1) c3)) gg z b r s y a3 (n+1) c3 va (mo.take k++[(newO nm,Value.slice none 0 0)]++mo.drop k) mr/\w3.cell? ⟨gg,5,none⟩=some (.slice ao n co)/\w3.frozen? ⟨gg,5,none⟩=false):=fun w3 a3 c3 hb ho=>by
   have g3:=GM.out.call hb
   have h9:=g3.blk
   have hg5:=gm_set5 h9 (.slice a3 (n+1) c3)
   have k6:=fun k o (hk:w3.heap[k]? = some o) (hne:k≠gg)=>(heap_setCell_other w3 ⟨gg,5,none⟩ k (.slice a3 (n+1) c3) (by exact hne)).trans hk
   unfold gmB at h9
   exact⟨⟨g3.low.setCell (p:=⟨gg,5,none⟩) g3.gg0 _,g3.gg0,hg5,own_others (OwnO.mono ho hw0) h9 (by decide) k6,fun x hx=>own_others (HHA.out _ g3.has x hx) h9 (by decide) k6,HAP.out,rowQ_others g3.rrow h9 (by decide) k6,g3.ps.keeps (KeepsS.others h9 (by decide) k6)⟩,cell_of_row w3 gg 5 _ _ _ h9,frozen_of_row w3 gg 5 _ _ h9⟩
  generalize hMM:mo.take k++[(newO nm,Value.slice none 0 0)]++mo.drop k=mo' at HEQ HAP HHA HINS HGME
  subst hva
  clear HHA hMM HPO
  have HSH:Hid ((ao=none/\co=0/\n=0/\k=0)∨(∃ g,ao=some ⟨g,0,none⟩/\g<W.heap.size)):=by
   rcases GM.out.orow.2 with⟨h,h0⟩|⟨g,cap,cur,hv,_,hb,_⟩
   ·left
    have h1:ao=none/\n=0/\co=0:=by simpa using h
    exact⟨h1.1,by omega,by omega,by omega⟩
   ·right
    exact⟨g,by simp at hv;exact hv.1,lt_rowK hb⟩
  go_upto_region 5 with fail
  go_cut [7] from 31 to 35 (fun s7 wx=>(∃ a1 c1,s7=.slice a1 k c1/\wx.ownsRow W.heap.size 86 5 (.slice a1 k c1) k (cellsO (mo.take k)))/\Below W.heap.size W wx)
  case first =>
   have HN1:Hid (∀ d,ao=some d->∀ j u,(cellsO (mo.take k))[j]? = some u->(W.alloc (.cells #[] 86)).cell? (d.add j)=some u):=fun d hd j u hu=>by
    have hq:=HOO.out.1 d hd j u hu
    exact(((Below.refl W.heap.size W).alloc (Nat.le_refl _) (.cells #[] 86)).cell (block_lt_of_cell hq)).trans hq
   rcases HSH.out with⟨h1,h2,h3,h4⟩|⟨g,h1,hgs⟩
   ·subst h1 h2 h3 h4
    go_wp2_with (at_builtin;refine wpList_append_opt _ rfl (.tmp 31) (.tmp 34) 33 rfl W.heap.size 86 j0 _ 5 64 Tryz.underlying33 hj0 ho0 ho1 ho2 rfl (by decide) (.slice (some ⟨W.heap.size,0,none⟩) 0 0) 0 [] rfl (ownO_lit W) none 0 0 HN0.out (cellsO (mo.take 0)) rfl HTL.out HN1.out H1T.out (by unfold maxLen;omega) (by omega) (by simp) ?_)
    intro v1 w1 hown1 hgrow1 _
    have O1:Hid (w1.ownsRow W.heap.size 86 5 v1 0 (cellsO (mo.take 0))):=by
     unfold Hid
     simpa using hown1
    have B1:Hid (Below W.heap.size W w1):=((Below.refl _ _).alloc (Nat.le_refl _) (.cells #[] 86)).grown hgrow1 (by simp) (fun q hq=>by simp[Value.ownBlock]at hq;omega)
    obtain⟨a1,c1,hv1⟩:=own_one O1.out
    subst hv1
    clear hown1 hgrow1
    go_wp2_with fail
    go_meet
    exact⟨⟨a1,c1,rfl,O1.out⟩,B1.out⟩
   ·subst h1
    go_wp2_with (at_builtin;refine wpList_append_opt _ rfl (.tmp 31) (.tmp 34) 33 rfl W.heap.size 86 j0 _ 5 64 Tryz.underlying33 hj0 ho0 ho1 ho2 rfl (by decide) (.slice (some ⟨W.heap.size,0,none⟩) 0 0) 0 [] rfl (ownO_lit W) (some ⟨g,0,none⟩) k co HN0.out (cellsO (mo.take k)) rfl HTL.out HN1.out H1T.out (by unfold maxLen;omega) (by omega) (by simp) ?_)
    intro v1 w1 hown1 hgrow1 _
    have O1:Hid (w1.ownsRow W.heap.size 86 5 v1 k (cellsO (mo.take k))):=by
     unfold Hid
     simpa using hown1
    have B1:Hid (Below W.heap.size W w1):=((Below.refl _ _).alloc (Nat.le_refl _) (.cells #[] 86)).grown hgrow1 (by simp) (fun q hq=>by simp[Value.ownBlock]at hq;omega)
    obtain⟨a1,c1,hv1⟩:=own_one O1.out
    subst hv1
    clear hown1 hgrow1
    go_wp2_with fail
    go_meet
    exact⟨⟨a1,c1,rfl,O1.out⟩,B1.out⟩
  case rest =>
   obtain⟨⟨a1,c1,rfl,hown1⟩,hbb1⟩:=hcut
   have B1:=hideK hbb1
   have O1:=hideK hown1
   clear hown1 hbb1
   generalize wc=w1 at B1 O1 ⊢
   have O1a:=hideK (World.ownsRow.alloc O1.out (.cells #[.string nm,.slice none 0 0,.int .i64 0,.int .i64 0,.int .i64 0] 86))
   have hs1:=B1.out.size
   go_wp2_with (at_builtin;refine wpList_append_own _ rfl (.tmp 36) (.tmp 39) 33 rfl W.heap.size 86 j0 _ 5 64 Tryz.underlying33 hj0 ho0 ho1 ho2 rfl (by decide) (.slice a1 k c1) k (cellsO (mo.take k)) rfl O1a.out ⟨w1.heap.size,0,none⟩ 1 1 [.string nm,.slice none 0 0,.int .i64 0,.int .i64 0,.int .i64 0] rfl rfl (five_new _ _ _ _ _ _ _) (five_one rfl rfl rfl rfl rfl) (by unfold maxLen;omega) (by omega) (by simp;omega) ?_)
   intro v2 w2 hown2 hgrow2 _
   have O2:=hideK hown2
   have B2:Hid (Below W.heap.size W w2):=(B1.out.alloc hs1 _).grown hgrow2 (by simp;omega) (fun q hq=>(World.ownsRow.lt O1.out q hq).1)
   obtain⟨a2,c2,hv2⟩:=own_one O2.out
   subst hv2
   have hs2:=B2.out.size
   clear hown2 hgrow2 O1 O1a
   have hl3:mo'.length=n+1:=by
    have:=congrArg List.length HEQ.out
    unfold meetO at this
    rw[List.length_append,List.length_append,List.length_take,List.length_drop,oths_length,oths_length,HM.out]at this
    simp at this
    omega
   have HL3:=hideK hl3
   clear hl3
   have HFIN:Hid (∀ (w3:World) (v3:Value),w3.ownsRow W.heap.size 86 5 v3 (k+1+(n-k)) (cellsO (mo.take k)++[.string nm,.slice none 0 0,.int .i64 0,.int .i64 0,.int .i64 0]++cellsO (mo.drop k))->w2.grownBy w3 (Value.slice a2 (k+1) c2).ownBlock->∃ a3 c3,v3=.slice a3 (n+1) c3/\Below W.heap.size W w3/\Game w (w3.setCell ⟨gg,5,none⟩ (.slice a3 (n+1) c3)) gg z b r s y a3 (n+1) c3 (.slice ar mr.length cr) mo' mr/\w3.cell? ⟨gg,5,none⟩=some (.slice ao n co)/\w3.frozen? ⟨gg,5,none⟩=false):=fun w3 v3 hown3 hgrow3=>by
    have O3:=HINS.out _ _ hown3
    have B3:Below W.heap.size W w3:=B2.out.grown hgrow3 hs2 (fun q hq=>(World.ownsRow.lt O2.out q hq).1)
    obtain⟨a3,c3,hv3⟩:=own_one O3
    rw[HL3.out]at hv3
    subst hv3
    exact⟨a3,c3,rfl,B3,HGME.out w3 a3 c3 B3 O3⟩
   go_upto_region 7 with fail
   go_cut [7] from 41 to 49 (fun s7 wx=>s7=.slice a2 (k+1) c2/\∃ a3 c3,Game w wx gg z b r s y a3 (n+1) c3 (.slice ar mr.length cr) mo' mr/\W.heap.size<=wx.heap.size)
   case first =>
    rcases HSH.out with⟨h1,h2,h3,h4⟩|⟨g,h1,hgs⟩
    ·subst h1 h2 h3 h4
     go_wp2_with (at_builtin;refine wpList_append_opt _ rfl (.tmp 42) (.tmp 45) 33 rfl W.heap.size 86 j0 _ 5 64 Tryz.underlying33 hj0 ho0 ho1 ho2 rfl (by decide) (.slice a2 (0+1) c2) (0+1) _ rfl O2.out none (0-0) 0 (fun _=>⟨rfl,rfl⟩) (cellsO (mo.drop 0)) rfl HDL.out (fun d hd j u hu=>by cases hd) H1D.out (by unfold maxLen;omega) (by omega) (by omega) ?_)
     intro v3 w3 hown3 hgrow3 _
     obtain⟨a3,c3,hv3,hb3,hg3,d5,f5⟩:=HFIN.out w3 v3 (by simpa using hown3) hgrow3
     subst hv3
     have G3:=hideK hg3
     have S3:=hideK hb3.size
     clear hown3 hgrow3 hg3 hb3
     go_wp2_with fail
     go_meet
     exact⟨rfl,a3,c3,G3.out,by simp;exact S3.out⟩
    ·subst h1
     by_cases hck:co=k
     ·obtain rfl:n=k:=by omega
      have hck2:=hck.symm
      clear hck
      subst hck2
      have HD1:Hid (∀ d:Addr,some (⟨g,0,none⟩:Addr)=some d->∀ j u,(cellsO (mo.drop n))[j]? = some u->w2.cell? (d.add j)=some u):=fun d _ j u hu=>by
       have:=HDL.out
       rw[List.getElem?_eq_none (by omega)]at hu
       cases hu
      have HD0:Hid ((cellsO (mo.drop n)).length=0*5):=by have:=HDL.out;unfold Hid;simpa using this
      go_wp2_with (at_builtin;refine wpList_append_opt _ rfl (.tmp 42) (.tmp 45) 33 rfl W.heap.size 86 j0 _ 5 64 Tryz.underlying33 hj0 ho0 ho1 ho2 rfl (by decide) (.slice a2 (n+1) c2) (n+1) _ rfl O2.out (some ⟨g,0,none⟩) 0 0 (fun h=>by cases h) (cellsO (mo.drop n)) rfl HD0.out HD1.out H1D.out (by unfold maxLen;omega) (by omega) (by omega) ?_)
      intro v3 w3 hown3 hgrow3 _
      obtain⟨a3,c3,hv3,hb3,hg3,d5,f5⟩:=HFIN.out w3 v3 (by simpa using hown3) hgrow3
      subst hv3
      have G3:=hideK hg3
      have S3:=hideK hb3.size
      clear hown3 hgrow3 hg3 hb3
      go_wp2_with fail
      go_meet
      exact⟨rfl,a3,c3,G3.out,by simp;exact S3.out⟩
     ·go_wp2_with (at_builtin;refine wpList_append_opt _ rfl (.tmp 42) (.tmp 45) 33 rfl W.heap.size 86 j0 _ 5 64 Tryz.underlying33 hj0 ho0 ho1 ho2 rfl (by decide) (.slice a2 (k+1) c2) (k+1) _ rfl O2.out (some ⟨g,k*5,none⟩) (n-k) (co-k) (fun h=>by cases h) (cellsO (mo.drop k)) rfl HDL.out (fun d hd j u hu=>by
       have hq:=HOO.out.2 ⟨g,0,none⟩ rfl j u hu
       rw[Addr.add_lit,Nat.zero_add]at hq
       cases hd
       exact(B2.out.cell (block_lt_of_cell hq)).trans hq) H1D.out (by unfold maxLen;omega) (by omega) (by omega) ?_)
      intro v3 w3 hown3 hgrow3 _
      obtain⟨a3,c3,hv3,hb3,hg3,d5,f5⟩:=HFIN.out w3 v3 (by simpa using hown3) hgrow3
      subst hv3
      have G3:=hideK hg3
      have S3:=hideK hb3.size
      clear hown3 hgrow3 hg3 hb3
      go_wp2_with fail
      go_meet
      exact⟨rfl,a3,c3,G3.out,by simp;exact S3.out⟩
   case rest =>
    obtain⟨rfl,a3,c3,hg6,hs6⟩:=hcut
    have G6:=hideK hg6
    clear hg6
    generalize wc=W6 at G6 hs6 ⊢
    have HHV:=hideK (l08Have_any w.heap.size mr.length (.slice ar mr.length cr) mr W6 G6.out.rrow rfl HMR.out)
    have d6:W6.cell? ⟨gg,6,none⟩=some (.slice ar mr.length cr):=cell_of_row _ gg 6 _ _ _ (by have:=G6.out.blk;unfold gmB at this;exact this)
    clear c5
    go_wp2_with fail
    refine HHV.out.mono ?_
    rintro e w7 ⟨ui,rfl,hoi,hb⟩
    have G7:=hideK (G6.out.call hb)
    have hs7:=hb.size
    have OI7:=hideK hoi
    clear hb hoi HHV d6 G6
    generalize hIL:Kh.sortZ (idxs mr)=il at OI7 HLS ⊢
    have HIL:=hideK hIL
    clear hIL
    obtain⟨ai,ci,hui,_,_⟩:=OI7.out.ints
    generalize hil:il.length=L at hui
    subst hui
    have HLL:=hideK hil
    have hLb:L<=1048576:=by have:=HLS.out;rw[hil]at this;exact this
    clear hil
    go_wp2_with fail
    go_loopw [9,10] (fun sv jv wq=>∃ (j:Nat) (ms:List ML),jv=.int .i64 j/\j<=L/\OwnL wq w7.heap.size sv ms/\Below w7.heap.size w7 wq/\snts ms=(il.take j).map (letterH nm)/\∀ x∈ms,x.2=.slice none 0 0/\x.1.path=[]) (fun _ jv _=>L-(intOf jv).toNat)
    case atStart=>exact⟨0,[],rfl,Nat.zero_le _,ownL_lit w7,(Below.refl _ _).alloc (Nat.le_refl _) _,rfl,fun _ hx=>absurd hx List.not_mem_nil⟩
    case round =>
     obtain⟨j,ms,rfl,hj,hol,hbl,hsm,hnl⟩:=hrel
     have OL:=hideK hol
     have BL:=hideK hbl
     have SM:=hideK hsm
     have NL:=hideK hnl
     have hzq:=hbl.size
     have HJN:Hid (ms.length=j):=by
      have:=congrArg List.length hsm
      rw[snts_length,List.length_map,List.length_take,HLL.out]at this
      unfold Hid
      omega
     obtain⟨asl,csl,hsv,_,_⟩:=hol.one
     rw[HJN.out]at hsv
     subst hsv
     clear hol hbl hsm hnl
     by_cases hjl:j<L
     ·have hjl':(j:Int)<(L:Int):=by omega
      have hjm:j<il.length:=by rw[HLL.out];exact hjl
      obtain⟨bi,hai,hbi,hci⟩:=own_cellsI OI7.out (by omega)
      subst hai
      have c0:=(BL.out.cell (p:=⟨bi,j,none⟩) hbi).trans (hci j hjm)
      have OLa:Hid ((wr.alloc (.cells #[.string nm,.int .i64 1,.int .i64 il[j],.string ⟨#[]⟩,.slice none 0 0] 114)).ownsRow w7.heap.size 114 5 (.slice asl j csl) j (cellsL ms)):=by
       have:=OL.out.alloc (.cells #[.string nm,.int .i64 1,.int .i64 il[j],.string ⟨#[]⟩,.slice none 0 0] 114)
       unfold OwnL at this
       rw[HJN.out]at this
       exact this
      have HNX:Hid (∀ (W':World) (v:Value),W'.ownsRow w7.heap.size 114 5 v (j+1) (cellsL ms++[.string nm,.int .i64 1,.int .i64 il[j],.string ⟨#[]⟩,.slice none 0 0])->OwnL W' w7.heap.size v (ms++[(letterH nm il[j],Value.slice none 0 0)])/\snts (ms++[(letterH nm il[j],Value.slice none 0 0)])=(il.take (j+1)).map (letterH nm)/\∀ x∈ms++[(letterH nm il[j],Value.slice none 0 0)],x.2=.slice none 0 0/\x.1.path=[]):=fun W' v h=>by
       refine⟨OwnL.snoc (x:=(letterH nm il[j],Value.slice none 0 0)) (by rw[HJN.out];exact h),?_,?_⟩
       ·have:=SM.out
        unfold snts at this ⊢
        rw[List.map_append,this,List.take_add_one,List.getElem?_eq_getElem hjm,List.map_append]
        rfl
       ·intro x hx
        rcases List.mem_append.1 hx with hx|hx
        ·exact NL.out x hx
        ·rw[List.mem_singleton.1 hx]
         exact⟨rfl,rfl⟩
      generalize il[j]=xi at c0 OLa HNX
      clear hci hjm
      go_wp2_with (at_builtin;refine wpList_append_own _ rfl (.tmp 62) (.tmp 70) 36 rfl w7.heap.size 114 i0 _ 5 72 Tryz.underlying36 hi0 hz0 hz1 hz2 rfl (by decide) (.slice asl j csl) j (cellsL ms) rfl OLa.out ⟨wr.heap.size,0,none⟩ 1 1 [.string nm,.int .i64 1,.int .i64 xi,.string ⟨#[]⟩,.slice none 0 0] rfl rfl (five_new _ _ _ _ _ _ _) (five_one rfl rfl rfl rfl rfl) (by unfold maxLen;omega) (by omega) (by simp;omega) ?_)
      intro v8 w8 hown8 hgrow8 _
      obtain⟨h81,h82,h83⟩:=HNX.out w8 v8 hown8
      have K81:=hideK h81
      have K82:=hideK h82
      have K83:=hideK h83
      have B8:Hid (Below w7.heap.size w7 w8):=(BL.out.alloc hzq _).grown hgrow8 (by simp;omega) (fun q hq=>(World.ownsRow.lt OL.out q hq).1)
      clear hown8 hgrow8 h81 h82 h83 HNX OLa c0
      go_wp2_with fail
      go_roundw
      case rel=>exact⟨j+1,_,by go_num,by omega,K81.out,B8.out,K82.out,K83.out⟩
      case measure=>simp[intOf];omega
     ·have hjl2:¬(j:Int)<(L:Int):=by omega
      have hjlD:decide ((j:Int)<(L:Int))=false:=by simp;omega
      obtain rfl:j=L:=by omega
      have HSE:Hid (snts ms=il.map (letterH nm)):=by
       unfold Hid
       rw[SM.out,List.take_of_length_le (by rw[HLL.out];exact Nat.le_refl _)]
      have G8:=hideK (G7.out.call BL.out)
      go_wp2_with fail
      go_ret
      exact⟨_,rfl,ms,a3,c3,mo',G8.out,HEQ.out,OL.out.mono (by omega),by rw[HIL.out];exact HSE.out,fun x v hx=>NL.out (x,v) hx⟩
end Go.Proofs.YtpddanmnlkcdpaaGreatDoor.Pl

