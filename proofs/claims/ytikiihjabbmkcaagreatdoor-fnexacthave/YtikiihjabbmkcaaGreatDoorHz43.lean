/- Texts put together: KpCut, KhHave, KhTop, KpPiece. -/
import Derived.Test.YtikiihjabbmkcaaGreatDoorHz40
import Derived.Test.YtikiihjabbmkcaaGreatDoorHz42
set_option maxRecDepth 100000
set_option maxHeartbeats 8000000
/- cutKeep, KeepSync, KeepRecover of the program. -/
namespace Go.Proofs.YtikiihjabbmkcaaGreatDoor.Kp
open Go.RowKit
open Ls (HH hh_keep lV lowL blkL)
def syncV (fit:Rec->Bool) (z b:Int) (r s:ByteArray) (y:Int):Value:=if keepB fit z b r s y=true then kV z b r s s.size else kV z b r s y
def recoverV (fit:Rec->Bool) (z b:Int) (r s:ByteArray) (y:Int):Value:=if mayB z b r s=true then kV z b r (s.extract 0 (allR fit s).2) (allR fit s).2 else kV z b r s y
theorem keepB_yes {fit:Rec->Bool} {z b:Int} {r s:ByteArray} {y:Int} (h:keepB fit z b r s y=true):mayB z b r s=true/\(allR fit s).2=s.size/\spanB s y=true:=by
 unfold keepB atB at h
 simp only[Bool.and_eq_true,decide_eq_true_eq]at h
 exact⟨h.1.1,h.1.2,h.2⟩
end Go.Proofs.YtikiihjabbmkcaaGreatDoor.Kp


namespace Go.Proofs.YtikiihjabbmkcaaGreatDoor.Kp
open Go.RowKit
open Ls (HH hh_keep lV lowL blkL cells3)
open In (OwnI one_newI one_cellI app_one)
open In.Tryz (infoI2)
open Kh (sortZ sort_any sortZ_length)
def idxs (m:List MR):List Int:=m.map (·.1.1)
theorem idxs_take {m:List MR} {j:Nat} (h:j<m.length):idxs (m.take (j+1))=idxs (m.take j)++[m[j].1.1]:=by
 unfold idxs
 rw[List.take_succ_eq_append_getElem h,List.map_append]
 rfl
theorem idxs_len (m:List MR) (j:Nat) (h:j<=m.length):(idxs (m.take j)).length=j:=by
 unfold idxs
 simp
 omega
theorem ownI_alloc {w:World} {base:Nat} {v:Value} {l:List Int} (h:OwnI w base v l) (o:Obj):OwnI (w.alloc o) base v l:=h.below ((Below.refl _ _).alloc (Nat.le_refl _) o)
theorem indexes_any (g base n:Nat) (v:Value) (m:List MR) (w:World) (hc:w.cell? ⟨g,0,none⟩=some v) (ho:OwnR w base v m) (hsl:∀ x∈m,∃ a n cap,x.2=.slice a n cap) (hn:m.length=n) (hm:n<=1048576) :
  Calls Tryz.prog 47 #[.pointer (some ⟨g,0,none⟩)] w fun r w'=>∃ u,r=.returned u/\OwnI w' w.heap.size u (sortZ (idxs m))/\Below w.heap.size w w':=by
 obtain⟨i0,hi0,hz0,hz1,hz2⟩:=info_parts infoI2
 have HN:=hideK hn
 obtain⟨a,cap,rfl⟩:=ho.one
 have HC:=hideK (fun h0=>ho.cells h0)
 rw[hn]at hc
 have HSL:=hideK hsl
 clear ho hn hsl
 go_enter Tryz.func47,Tryz.ntmps47
 go_wp2_with fail
 go_loopw [3,11] (fun u jv wr=>∃ (j:Nat),jv=.int .i64 j/\j<=n/\OwnI wr w.heap.size u (idxs (m.take j))/\Below w.heap.size w wr) (fun _ jv _=>n-(intOf jv).toNat)
 case atStart=>exact⟨0,rfl,Nat.zero_le _,OwnI.nil _ _,Below.refl _ _⟩
 case round =>
  obtain⟨j,rfl,hj,hown,hbel⟩:=hrel
  have O1:=hideK hown
  have GB:=hideK hbel
  have hz:=hbel.size
  obtain⟨a1,c1,hu,_,_⟩:=hown.ints
  have HL:=hideK (idxs_len m j (by rw[HN.out];exact hj))
  rw[HL.out]at hu
  subst hu
  clear hown hbel
  by_cases hlt:j<n
  ·have hlt':(j:Int)<(n:Int):=by omega
   have hjm:j<m.length:=by rw[HN.out];exact hlt
   obtain⟨gr,cp,hv,_,hgl,_,hcl⟩:=HC.out (by rw[HN.out];omega)
   cases hv
   obtain⟨e0,e1,e2⟩:=hcl j hjm
   have c0:=(GB.out.cell (p:=⟨gr,j*3,none⟩) hgl).trans e0
   have c1:=(GB.out.cell (p:=⟨gr,j*3+1,none⟩) hgl).trans e1
   have c2:=(GB.out.cell (p:=⟨gr,j*3+2,none⟩) hgl).trans e2
   have HT:=hideK (idxs_take hjm)
   obtain⟨ap,np,cq,hxv⟩:=HSL.out m[j] (List.getElem_mem hjm)
   rw[hxv]at c2
   generalize m[j].1.1=xi at c0 HT
   generalize m[j].1.2.1=xt at c1
   clear e0 e1 e2 hcl hjm hxv
   have O2:=hideK (ownI_alloc O1.out (.cells #[.int .i64 xi,.string xt,.slice ap np cq] 130))
   have B2:=hideK (GB.out.alloc hz (.cells #[.int .i64 xi,.string xt,.slice ap np cq] 130))
   have X2:=hideK (cells3 (heap_alloc_new wr (.cells #[.int .i64 xi,.string xt,.slice ap np cq] 130)))
   go_upto_region 5 with fail
   generalize wr.alloc (.cells #[.int .i64 xi,.string xt,.slice ap np cq] 130)=W1 at O2 B2 X2 ⊢
   generalize wr.heap.size=g1 at X2 ⊢
   obtain⟨d0,d1,d2⟩:=X2.out
   have hz2':=B2.out.size
   clear c0 c1 c2
   go_wp2_with (at_builtin;refine wpList_append_own _ rfl (.tmp 15) (.tmp 18) 27 rfl w.heap.size 2 i0 (.int .i64 0) 1 8 Tryz.underlying27 hi0 hz0 hz1 hz2 rfl (by decide) _ j (List.map (Value.int .i64) (idxs (m.take j))) rfl (by have:=ownI_alloc O2.out (.cells #[.int .i64 xi] 2);unfold OwnI at this;rw[HL.out]at this;exact this) ⟨W1.heap.size,0,none⟩ 1 1 [.int .i64 xi] rfl rfl (one_newI _ _ _) (one_cellI _) (by unfold maxLen;omega) (by omega) (by simp;omega) ?_)
   intro v' w5 hown' hgrow _
   have N5:Hid (OwnI w5 w.heap.size v' (idxs (m.take (j+1)))):=by
    unfold Hid
    rw[HT.out]
    refine OwnI.snoc ?_
    rw[HL.out]
    exact hown'
   have b5:=hideK (app_one B2.out hz2' (Nat.le_refl _) O2.out hgrow)
   clear hown' hgrow
   go_wp2_with fail
   go_roundw
   case rel=>exact⟨j+1,by go_num,by omega,N5.out,b5.out⟩
   case measure=>simp[intOf];omega
  ·obtain rfl:j=n:=by omega
   have HT:Hid (idxs (m.take j)=idxs m):=by
    unfold Hid
    rw[List.take_of_length_le (by rw[HN.out];omega)]
   have O2:Hid (OwnI wr w.heap.size (.slice a1 j c1) (idxs m)):=by rw[<-HT.out];exact O1.out
   have HSO:=hideK (sort_any w.heap.size _ _ wr O2.out (by unfold idxs;rw[List.length_map,HN.out];exact hm))
   go_wp2_with fail
   refine HSO.out.mono ?_
   rintro e w6 ⟨rfl,ho6,hb6⟩
   have O6:=hideK ho6
   have B6:=hideK (GB.out.trans (hb6 _ (Nat.le_refl _) hz))
   clear ho6 hb6
   go_wp2_with fail
   go_ret
   exact⟨_,rfl,O6.out,B6.out⟩
end Go.Proofs.YtikiihjabbmkcaaGreatDoor.Kp


namespace Go.Proofs.YtikiihjabbmkcaaGreatDoor.Kp
open Go.RowKit
open Ls (HH hh_keep lV lowL blkL cells3)
open In (OwnI)
open Kh (sortZ sortZ_length)
def haveL (fit:Rec->Bool) (z b:Int) (r s:ByteArray) (y:Int):List Int:=if keepB fit z b r s y=true then sortZ ((allR fit s).1.map (·.1)) else []
theorem idxs_recs (m:List MR):idxs m=(recs m).map (·.1):=by
 unfold idxs recs
 rw[List.map_map]
 rfl
theorem haveL_length (fit:Rec->Bool) (z b:Int) (r s:ByteArray) (y:Int) (hs:s.size<=1048576):(haveL fit z b r s y).length<=1048576:=by
 unfold haveL
 split
 ·rw[sortZ_length,List.length_map]
  have h1:=allR_many fit s
  have h2:=allR_le fit s
  omega
 ·exact Nat.zero_le _
theorem have_impl (fit:Rec->Bool) (z b:Int) (r s:ByteArray) (y:Int) (w:World) (hs:s.size<=1048576) (hh:HH w) (hf:FitC fit z b r w) :
  Calls Tryz.prog 12 #[kV z b r s y] w fun e w'=>∃ u,e=.returned u/\OwnI w' w.heap.size u (haveL fit z b r s y)/\Below w.heap.size w w':=by
 have C0:=hideK ((Cx.nil w).new (kB z b r s y))
 have HO:=hideK (fun W (h:Below w.heap.size w W)=>openKeep_any fit z b r s y W hs (hh_keep hh h) (hf.later h))
 have HR:=hideK (fun g v W h=>right_any g v (allR fit s).2 z b r s y W h)
 change Hid (∀ g v W h,Calls _ _ _ W fun e w'=>e=.returned (.bool (keepB fit z b r s y))/\_) at HR
 have HY:Hid (keepB fit z b r s y=true->haveL fit z b r s y=sortZ ((allR fit s).1.map (·.1))):=fun h=>if_pos h
 have HN:Hid (keepB fit z b r s y=false->haveL fit z b r s y=[]):=fun h=>if_neg (by rw[h];exact Bool.false_ne_true)
 clear hh hf
 generalize haveL fit z b r s y=A at HY HN ⊢
 unfold OpenOut at HO
 unfold kV at HO ⊢
 unfold kB at C0
 go_enter Tryz.func12,Tryz.ntmps12
 go_wp2_with fail
 generalize w.alloc _=W0 at C0 ⊢
 refine(HO.out _ C0.out.low).mono ?_
 rintro e w1 ⟨⟨v,m,rfl,h1,h2,h3⟩,hb⟩
 obtain⟨a0,cap0,hv⟩:=h2.one
 subst hv
 have C1:=hideK ((C0.out.call hb).new (wkB (.slice a0 m.length cap0) (allR fit s).2 z b r s y))
 have OW:=hideK (h2.alloc (wkB (.slice a0 m.length cap0) (allR fit s).2 z b r s y))
 have PS:=hideK h3.slices
 have RS:=hideK h1
 clear hb h1 h2 h3 HO C0
 unfold wkB at C1 OW
 go_wp2_with fail
 generalize w1.alloc _=W1 at C1 OW ⊢
 generalize w1.heap.size=gw at C1 ⊢
 refine(HR.out gw _ W1 (C1.out.get 0 rfl)).mono ?_
 rintro e w2 ⟨rfl,hb⟩
 have C2:=hideK (C1.out.call hb)
 have OW2:=hideK (OW.out.below hb)
 clear hb C1 OW HR
 cases hk:keepB fit z b r s y with
 |false =>
  have HE:=hideK (HN.out hk)
  clear hk HY HN
  go_wp2_with fail
  go_ret
  exact⟨_,rfl,by rw[HE.out];exact OwnI.nil _ _,C2.out.low⟩
 |true =>
  have HE:=hideK (HY.out hk)
  rw[<-RS.out,<-idxs_recs]at HE
  have hml:m.length<=1048576:=by
   have h1:=allR_many fit s
   have h2:=allR_le fit s
   rw[<-RS.out,recs_length]at h1
   omega
  have HIX:=hideK (indexes_any gw _ m.length _ m w2 (wk_cells (C2.out.get 0 rfl)).1 OW2.out PS.out rfl hml)
  clear hk HY HN
  go_wp2_with fail
  refine HIX.out.mono ?_
  rintro e w3 ⟨u,rfl,ho,hb⟩
  have O3:=hideK (ho.mono C2.out.low.size)
  have C3:=hideK (C2.out.call hb)
  clear hb ho
  go_wp2_with fail
  go_ret
  exact⟨_,rfl,by rw[HE.out];exact O3.out,C3.out.low⟩
end Go.Proofs.YtikiihjabbmkcaaGreatDoor.Kp


/- PieceOf of the program. -/
namespace Go.Proofs.YtikiihjabbmkcaaGreatDoor.Kp
open Go.RowKit
open Ls (HH hh_keep lV lowL blkL cells3 set3_all)
def pieceR (out:List Rec) (i:Int):Option ByteArray:=(out.find? fun x=>x.1==i).map (·.2.1)
def pieceV (fit:Rec->Bool) (z b:Int) (r s:ByteArray) (y i:Int):Value :=
 if keepB fit z b r s y=true then
  match pieceR (allR fit s).1 i with
  |some t=>.agg #[.string t,.int .i64 0,.int .i64 0]
  |none=>.agg #[.string ⟨#[]⟩,.int .i64 0,.int .i64 6]
 else .agg #[.string ⟨#[]⟩,.int .i64 0,.int .i64 1]
def tZ:Obj:=.cells #[.string ⟨#[]⟩,.int .i64 0,.int .i64 0] 170
end Go.Proofs.YtikiihjabbmkcaaGreatDoor.Kp

