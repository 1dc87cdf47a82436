/- Texts put together: KpCut, KpPiece, KqTop, KhHave, KhTop, KhSpec. -/
import Derived.Test.YtpddanmnlkcdpaaGreatDoorMz33
import Derived.Test.YtpddanmnlkcdpaaGreatDoorMz40
set_option maxRecDepth 100000
set_option maxHeartbeats 8000000
/- cutKeep, KeepSync, KeepRecover of the program. -/
namespace Go.Proofs.YtpddanmnlkcdpaaGreatDoor.Kp
open Go.RowKit
open Ls (HH hh_keep lV lowL blkL)
def syncV (fit:Rec->Bool) (z b:Int) (r s:ByteArray) (y:Int):Value:=if keepB fit z b r s y=true then kV z b r s s.size else kV z b r s y
def recoverV (fit:Rec->Bool) (z b:Int) (r s:ByteArray) (y:Int):Value:=if mayB z b r s=true then kV z b r (s.extract 0 (allR fit s).2) (allR fit s).2 else kV z b r s y
theorem keepB_yes {fit:Rec->Bool} {z b:Int} {r s:ByteArray} {y:Int} (h:keepB fit z b r s y=true):mayB z b r s=true/\(allR fit s).2=s.size/\spanB s y=true:=by
 unfold keepB atB at h
 simp only[Bool.and_eq_true,decide_eq_true_eq]at h
 exact⟨h.1.1,h.1.2,h.2⟩
end Go.Proofs.YtpddanmnlkcdpaaGreatDoor.Kp


/- PieceOf of the program. -/
namespace Go.Proofs.YtpddanmnlkcdpaaGreatDoor.Kp
open Go.RowKit
open Ls (HH hh_keep lV lowL blkL cells3 set3_all)
def pieceR (out:List Rec) (i:Int):Option ByteArray:=(out.find? fun x=>x.1==i).map (·.2.1)
def pieceV (fit:Rec->Bool) (z b:Int) (r s:ByteArray) (y i:Int):Value :=
 if keepB fit z b r s y=true then
  match pieceR (allR fit s).1 i with
  |some t=>.agg #[.string t,.int .i64 0,.int .i64 0]
  |none=>.agg #[.string ⟨#[]⟩,.int .i64 0,.int .i64 6]
 else .agg #[.string ⟨#[]⟩,.int .i64 0,.int .i64 1]
def tZ:Obj:=.cells #[.string ⟨#[]⟩,.int .i64 0,.int .i64 0] 179
end Go.Proofs.YtpddanmnlkcdpaaGreatDoor.Kp


namespace Go.Proofs.YtpddanmnlkcdpaaGreatDoor.Kp
open Go.RowKit
open Bi (is_yes is_no)
open Ls (rightB right_spec lV lowL blkL cells3 set3_all)
theorem keepB_no {fit:Rec->Bool} {z b:Int} {r s:ByteArray} {y:Int} (h:¬(rightB z b r=true/\s.size<=8000/\0<=y/\y<=s.size)):keepB fit z b r s y=false:=by
 rw[<-Bool.not_eq_true]
 intro h2
 obtain⟨h3,_,h5⟩:=keepB_yes h2
 unfold mayB at h3
 unfold spanB at h5
 simp only[Bool.and_eq_true,decide_eq_true_eq]at h3 h5
 exact h ⟨h3.1,h3.2,h5.1,h5.2⟩
theorem keepB_at {fit:Rec->Bool} {z b:Int} {r s:ByteArray} {y:Int} (h:rightB z b r=true/\s.size<=8000/\0<=y/\y<=s.size):keepB fit z b r s y=(((allR fit s).2:Int)==(s.size:Int)):=by
 unfold keepB atB mayB spanB
 rw[h.1,decide_eq_true h.2.1,decide_eq_true h.2.2.1,decide_eq_true h.2.2.2]
 by_cases he:(allR fit s).2=s.size
 ·rw[decide_eq_true he,he];simp
 ·rw[decide_eq_false he];simp;omega
theorem keepRight_spec (fit:Rec->Bool) (z b:Int) (r s:ByteArray) (y:Int) (w:World) (hs:s.size<=1048576) (hf:rightB z b r=true->FitS fit z b r w) :
  Calls Tryz.prog 58 #[kV z b r s y] w fun e w'=>e=.returned (.bool (keepB fit z b r s y))/\Below w.heap.size w w':=by
 have C0:=hideK ((Cx.nil w).new (kB z b r s y))
 have HR:=hideK (fun W=>right_spec z b r W)
 unfold kV
 unfold kB at C0
 unfold lV at HR
 cases hr:rightB z b r with
 |false =>
  have HK:=hideK (keepB_no (fit:=fit) (z:=z) (b:=b) (r:=r) (s:=s) (y:=y) (fun h=>by rw[hr]at h;exact Bool.false_ne_true h.1))
  rw[HK.out]
  rw[hr]at HR
  clear hr HK hf
  go_enter Tryz.func58,Tryz.ntmps58
  go_wp2_with fail
  refine(HR.out _).mono ?_
  rintro e w1 ⟨rfl,hb⟩
  have C1:=hideK (C0.out.call hb)
  clear hb C0
  go_wp2_with fail
  go_ret
  exact⟨rfl,C1.out.low⟩
 |true =>
  rw[hr]at HR
  by_cases h8:s.size<=8000
  ·have h8':¬((8000:Int)<s.size):=by omega
   have h8D:decide ((8000:Int)<s.size)=false:=by simp;omega
   by_cases hy:0<=y/\y<=s.size
   ·have HIS:=hideK (fun W=>is_yes y 0 s.size W hy.1 hy.2)
    have HK:=hideK (keepB_at (fit:=fit) ⟨hr,h8,hy.1,hy.2⟩)
    rw[HK.out]
    have HA:=hideK (fun W (h:Below w.heap.size w W)=>l08All_any fit z b r s W hs ((hf hr).later h))
    unfold AllOut lV at HA
    clear hr HK hf hy
    go_enter Tryz.func58,Tryz.ntmps58
    go_wp2_with fail
    refine(HR.out _).mono ?_
    rintro e w1 ⟨rfl,hb⟩
    have C1:=hideK (C0.out.call hb)
    clear hb C0
    obtain⟨l0,l1,l2,l3,l4⟩:=k_cells (C1.out.get 0 rfl)
    go_wp2_with fail
    refine(HIS.out _).mono ?_
    rintro e w2 ⟨rfl,hw⟩
    subst w2
    go_wp2_with fail
    refine(HA.out _ C1.out.low).mono ?_
    rintro e w3 ⟨⟨v,m,rfl,h1,h2,h3⟩,hb⟩
    obtain⟨a0,cap0,hv,_⟩:=h2.one
    subst hv
    have C3:=hideK (C1.out.call hb)
    clear hb h1 h2 h3 C1 l0 l1 l2 l3 l4 HA
    obtain⟨l0,l1,l2,l3,l4⟩:=k_cells (C3.out.get 0 rfl)
    go_wp2_with fail
    go_ret
    exact⟨rfl,C3.out.low⟩
   ·have HIS:=hideK (fun W=>is_no y 0 s.size W (by omega))
    have HK:=hideK (keepB_no (fit:=fit) (z:=z) (b:=b) (r:=r) (s:=s) (y:=y) (fun h=>hy ⟨h.2.2.1,h.2.2.2⟩))
    rw[HK.out]
    clear hr HK hf hy
    go_enter Tryz.func58,Tryz.ntmps58
    go_wp2_with fail
    refine(HR.out _).mono ?_
    rintro e w1 ⟨rfl,hb⟩
    have C1:=hideK (C0.out.call hb)
    clear hb C0
    obtain⟨l0,l1,l2,l3,l4⟩:=k_cells (C1.out.get 0 rfl)
    go_wp2_with fail
    refine(HIS.out _).mono ?_
    rintro e w2 ⟨rfl,hw⟩
    subst w2
    go_wp2_with fail
    go_ret
    exact⟨rfl,C1.out.low⟩
  ·have h8':(8000:Int)<s.size:=by omega
   have HK:=hideK (keepB_no (fit:=fit) (z:=z) (b:=b) (r:=r) (s:=s) (y:=y) (fun h=>h8 h.2.1))
   rw[HK.out]
   clear hr HK hf
   go_enter Tryz.func58,Tryz.ntmps58
   go_wp2_with fail
   refine(HR.out _).mono ?_
   rintro e w1 ⟨rfl,hb⟩
   have C1:=hideK (C0.out.call hb)
   clear hb C0
   obtain⟨l0,l1,l2,l3,l4⟩:=k_cells (C1.out.get 0 rfl)
   go_wp2_with fail
   go_ret
   exact⟨rfl,C1.out.low⟩
end Go.Proofs.YtpddanmnlkcdpaaGreatDoor.Kp


namespace Go.Proofs.YtpddanmnlkcdpaaGreatDoor.Kp
open Go.RowKit
open Ls (HH hh_keep lV lowL blkL cells3)
open In (OwnI one_newI one_cellI app_one)
open In.Tryz (infoI2)
open Kh (sortZ sort_any sortZ_length)
def idxs (m:List MR):List Int:=m.map (·.1.1)
theorem idxs_take {m:List MR} {j:Nat} (h:j<m.length):idxs (m.take (j+1))=idxs (m.take j)++[m[j].1.1]:=by
 unfold idxs
 rw[List.take_succ_eq_append_getElem h,List.map_append]
 rfl
theorem idxs_len (m:List MR) (j:Nat) (h:j<=m.length):(idxs (m.take j)).length=j:=by
 unfold idxs
 simp
 omega
theorem ownI_alloc {w:World} {base:Nat} {v:Value} {l:List Int} (h:OwnI w base v l) (o:Obj):OwnI (w.alloc o) base v l:=h.below ((Below.refl _ _).alloc (Nat.le_refl _) o)
theorem indexes_any (g base n:Nat) (v:Value) (m:List MR) (w:World) (hc:w.cell? ⟨g,0,none⟩=some v) (ho:OwnR w base v m) (hsl:∀ x∈m,∃ a n cap,x.2=.slice a n cap) (hn:m.length=n) (hm:n<=1048576) :
  Calls Tryz.prog 37 #[.pointer (some ⟨g,0,none⟩)] w fun r w'=>∃ u,r=.returned u/\OwnI w' w.heap.size u (sortZ (idxs m))/\Below w.heap.size w w':=by
 obtain⟨i0,hi0,hz0,hz1,hz2⟩:=info_parts infoI2
 have HN:=hideK hn
 obtain⟨a,cap,rfl⟩:=ho.one
 have HC:=hideK (fun h0=>ho.cells h0)
 rw[hn]at hc
 have HSL:=hideK hsl
 clear ho hn hsl
 go_enter Tryz.func37,Tryz.ntmps37
 go_wp2_with fail
 go_loopw [3,11] (fun u jv wr=>∃ (j:Nat),jv=.int .i64 j/\j<=n/\OwnI wr w.heap.size u (idxs (m.take j))/\Below w.heap.size w wr) (fun _ jv _=>n-(intOf jv).toNat)
 case atStart=>exact⟨0,rfl,Nat.zero_le _,OwnI.nil _ _,Below.refl _ _⟩
 case round =>
  obtain⟨j,rfl,hj,hown,hbel⟩:=hrel
  have O1:=hideK hown
  have GB:=hideK hbel
  have hz:=hbel.size
  obtain⟨a1,c1,hu,_,_⟩:=hown.ints
  have HL:=hideK (idxs_len m j (by rw[HN.out];exact hj))
  rw[HL.out]at hu
  subst hu
  clear hown hbel
  by_cases hlt:j<n
  ·have hlt':(j:Int)<(n:Int):=by omega
   have hjm:j<m.length:=by rw[HN.out];exact hlt
   obtain⟨gr,cp,hv,_,hgl,_,hcl⟩:=HC.out (by rw[HN.out];omega)
   cases hv
   obtain⟨e0,e1,e2⟩:=hcl j hjm
   have c0:=(GB.out.cell (p:=⟨gr,j*3,none⟩) hgl).trans e0
   have c1:=(GB.out.cell (p:=⟨gr,j*3+1,none⟩) hgl).trans e1
   have c2:=(GB.out.cell (p:=⟨gr,j*3+2,none⟩) hgl).trans e2
   have HT:=hideK (idxs_take hjm)
   obtain⟨ap,np,cq,hxv⟩:=HSL.out m[j] (List.getElem_mem hjm)
   rw[hxv]at c2
   generalize m[j].1.1=xi at c0 HT
   generalize m[j].1.2.1=xt at c1
   clear e0 e1 e2 hcl hjm hxv
   have O2:=hideK (ownI_alloc O1.out (.cells #[.int .i64 xi,.string xt,.slice ap np cq] 129))
   have B2:=hideK (GB.out.alloc hz (.cells #[.int .i64 xi,.string xt,.slice ap np cq] 129))
   have X2:=hideK (cells3 (heap_alloc_new wr (.cells #[.int .i64 xi,.string xt,.slice ap np cq] 129)))
   go_upto_region 5 with fail
   generalize wr.alloc (.cells #[.int .i64 xi,.string xt,.slice ap np cq] 129)=W1 at O2 B2 X2 ⊢
   generalize wr.heap.size=g1 at X2 ⊢
   obtain⟨d0,d1,d2⟩:=X2.out
   have hz2':=B2.out.size
   clear c0 c1 c2
   go_wp2_with (at_builtin;refine wpList_append_own _ rfl (.tmp 15) (.tmp 18) 84 rfl w.heap.size 2 i0 (.int .i64 0) 1 8 Tryz.underlying84 hi0 hz0 hz1 hz2 rfl (by decide) _ j (List.map (Value.int .i64) (idxs (m.take j))) rfl (by have:=ownI_alloc O2.out (.cells #[.int .i64 xi] 2);unfold OwnI at this;rw[HL.out]at this;exact this) ⟨W1.heap.size,0,none⟩ 1 1 [.int .i64 xi] rfl rfl (one_newI _ _ _) (one_cellI _) (by unfold maxLen;omega) (by omega) (by simp;omega) ?_)
   intro v' w5 hown' hgrow _
   have N5:Hid (OwnI w5 w.heap.size v' (idxs (m.take (j+1)))):=by
    unfold Hid
    rw[HT.out]
    refine OwnI.snoc ?_
    rw[HL.out]
    exact hown'
   have b5:=hideK (app_one B2.out hz2' (Nat.le_refl _) O2.out hgrow)
   clear hown' hgrow
   go_wp2_with fail
   go_roundw
   case rel=>exact⟨j+1,by go_num,by omega,N5.out,b5.out⟩
   case measure=>simp[intOf];omega
  ·obtain rfl:j=n:=by omega
   have HT:Hid (idxs (m.take j)=idxs m):=by
    unfold Hid
    rw[List.take_of_length_le (by rw[HN.out];omega)]
   have O2:Hid (OwnI wr w.heap.size (.slice a1 j c1) (idxs m)):=by rw[<-HT.out];exact O1.out
   have HSO:=hideK (sort_any w.heap.size _ _ wr O2.out (by unfold idxs;rw[List.length_map,HN.out];exact hm))
   go_wp2_with fail
   refine HSO.out.mono ?_
   rintro e w6 ⟨rfl,ho6,hb6⟩
   have O6:=hideK ho6
   have B6:=hideK (GB.out.trans (hb6 _ (Nat.le_refl _) hz))
   clear ho6 hb6
   go_wp2_with fail
   go_ret
   exact⟨_,rfl,O6.out,B6.out⟩
end Go.Proofs.YtpddanmnlkcdpaaGreatDoor.Kp


/- Have of the program: what it answers. -/
namespace Go.Proofs.YtpddanmnlkcdpaaGreatDoor.Kp
open Go.RowKit
open Ls (HH hh_keep lV lowL blkL cells3)
open In (OwnI)
open Kh (sortZ sortZ_length)
def haveL (fit:Rec->Bool) (z b:Int) (r s:ByteArray) (y:Int):List Int:=if keepB fit z b r s y=true then sortZ ((allR fit s).1.map (·.1)) else []
theorem idxs_recs (m:List MR):idxs m=(recs m).map (·.1):=by
 unfold idxs recs
 rw[List.map_map]
 rfl
end Go.Proofs.YtpddanmnlkcdpaaGreatDoor.Kp


namespace Go.Proofs.YtpddanmnlkcdpaaGreatDoor.Kp
open Go.RowKit
open Ls (lV rightB lowL blkL)
open In (OwnI one_newI one_cellI app_one Ints)
open In.Tryz (infoI2)
open Kh (sortZ sortZ_length insZ insZ_ok insZ_length)
open Tr (wpList_append_opt)
theorem ownI_lit (W:World):OwnI (W.alloc (.cells #[] 2)) W.heap.size (.slice (some ⟨W.heap.size,0,none⟩) 0 0) [] :=
 ⟨rfl,.inr ⟨W.heap.size,0,#[],rfl,Nat.le_refl _,heap_alloc_new W _,Nat.le_refl _,by decide,rfl,rfl⟩⟩
theorem ownI_cells {W:World} {base:Nat} {v:Value} {l:List Int} (h:OwnI W base v l) (hne:0<l.length):∃ g cap,v=.slice (some ⟨g,0,none⟩) l.length cap/\base<=g/\g<W.heap.size/\l.length<=cap/\∀ j (hj:j<l.length),W.cell? ⟨g,j,none⟩=some (.int .i64 l[j]):=by
 rcases h.split with⟨_,rfl⟩|⟨g,cap,hv,hg,hc,ho⟩
 ·cases hne
 ·exact⟨g,cap,hv,hg,ho.lt,hc,fun j hj=>ho.cell hj⟩
theorem news_take {W:World} {g k:Nat} {l:List Int} (hc:∀ j (hj:j<l.length),W.cell? ⟨g,j,none⟩=some (.int .i64 l[j])):∀ j u,((l.take k).map (Value.int .i64))[j]? = some u->W.cell? ((⟨g,0,none⟩:Addr).add j)=some u:=by
 intro j u hu
 have hj:j<(l.take k).length:=by
  have:=(List.getElem?_eq_some_iff.1 hu).1
  rwa[List.length_map]at this
 have hj':j<l.length:=Nat.lt_of_lt_of_le hj (List.length_take_le' k l)
 rw[List.getElem?_map,List.getElem?_eq_getElem hj,List.getElem_take]at hu
 rw[Addr.add_lit,Nat.zero_add,hc j hj']
 exact hu
theorem news_drop {W:World} {g k:Nat} {l:List Int} (hc:∀ j (hj:j<l.length),W.cell? ⟨g,j,none⟩=some (.int .i64 l[j])):∀ j u,((l.drop k).map (Value.int .i64))[j]? = some u->W.cell? ((⟨g,k,none⟩:Addr).add j)=some u:=by
 intro j u hu
 have hj:j<(l.drop k).length:=by
  have:=(List.getElem?_eq_some_iff.1 hu).1
  rwa[List.length_map]at this
 rw[List.getElem?_map,List.getElem?_eq_getElem hj,List.getElem_drop]at hu
 rw[List.length_drop]at hj
 rw[Addr.add_lit,hc (k+j) (by omega)]
 exact hu
theorem ints_one (l:List Int):∀ u∈l.map (Value.int .i64),u.oneCell'=true:=by
 intro u hu
 obtain⟨x,_,rfl⟩:=List.mem_map.1 hu
 rfl
theorem below_drewK {B:Nat} {w w':World} (h:Below B w w') (n:Nat):Below B w (w'.drewN n):=⟨h.os,h.tape,h.output,h.size,h.block⟩
theorem l08Have_any (base n:Nat) (v:Value) (m:List MR) (w:World) (ho:RowQ w base v m) (hn:m.length=n) (hm:n<=1048576) :
  Calls Tryz.prog 62 #[v] w fun r w'=>∃ u,r=.returned u/\OwnI w' w.heap.size u (sortZ (idxs m))/\Below w.heap.size w w':=by
 obtain⟨i0,hi0,hz0,hz1,hz2⟩:=info_parts infoI2
 have HN:=hideK hn
 obtain⟨a,cap,hv,hc⟩:=ho.one
 subst hv
 have HC:=hideK hc
 rw[hn]
 clear ho hc hn
 go_enter Tryz.func62,Tryz.ntmps62
 go_wp2_with fail
 go_loopw [3,4] (fun u jv wr=>∃ (j g cp:Nat) (s:List Int),jv=.int .i64 j/\u=.slice (some ⟨g,0,none⟩) j cp/\j<=n/\j<=cp/\s=sortZ (idxs (m.take j))/\OwnI wr w.heap.size (.slice (some ⟨g,0,none⟩) j cp) s/\Below w.heap.size w wr) (fun _ jv _=>n-(intOf jv).toNat)
 case atStart=>exact⟨0,w.heap.size,0,[],rfl,rfl,Nat.zero_le _,Nat.le_refl _,(by rw[List.take_zero];exact Kh.sortZ_nil.symm),ownI_lit w,(Below.refl _ _).alloc (Nat.le_refl _) _⟩
 case round =>
  obtain⟨j,g,cp,s,rfl,rfl,hj,hjc,hs,hown,hbel⟩:=hrel
  have hsl:s.length=j:=by rw[hs,sortZ_length,idxs_len m j (by rw[HN.out];exact hj)]
  have HSL:=hideK hsl
  have HS:=hideK hs
  have O1:=hideK hown
  have GB:=hideK hbel
  clear hown hbel hs hsl
  by_cases hlt:j<n
  ·have hlt':(j:Int)<(n:Int):=by omega
   have hjm:j<m.length:=by rw[HN.out];exact hlt
   obtain⟨gr,rfl,hgl,hcap,hcl⟩:=HC.out (by rw[HN.out];omega)
   have e0:=(hcl j hjm).1
   have HT:=hideK (idxs_take hjm)
   generalize m[j].1.1=x at e0 HT
   have HE0:=hideK e0
   clear hcl hjm e0
   go_wp2_with fail
   go_loopw [5] (fun kv wr2=>∃ (k:Nat),kv=.int .i64 k/\k<=j/\(∀ i (hi:i<s.length),k<=i->x<s[i])/\OwnI wr2 w.heap.size (.slice (some ⟨g,0,none⟩) j cp) s/\Below w.heap.size w wr2) (fun kv _=>(intOf kv).toNat)
   case atStart=>exact⟨j,rfl,Nat.le_refl _,fun i hi h=>absurd hi (by rw[HSL.out];omega),O1.out,GB.out⟩
   case round =>
    obtain⟨k,rfl,hk,hup,hown2,hbel2⟩:=hrel
    have UP:=hideK hup
    have O2:=hideK hown2
    have B2:=hideK hbel2
    have c0:=(hbel2.cell (p:=⟨gr,j*3,none⟩) hgl).trans HE0.out
    clear hup hown2 hbel2 O1 GB
    have O3:=hideK (fun q=>O2.out.below (below_drewK (Below.refl wr.heap.size wr) q))
    have B3:=hideK (fun q=>below_drewK B2.out q)
    by_cases hgo:0<k/\x<s.getD (k-1) 0
    ·obtain⟨hk0,hgt⟩:=hgo
     obtain⟨k',rfl⟩:∃ k',k=k' + 1:=⟨k-1,by omega⟩
     have hkl:k' < s.length:=by rw[HSL.out];omega
     obtain⟨g',cp',hv',_,_,_,hcs⟩:=ownI_cells O2.out (by omega)
     obtain⟨rfl,rfl⟩:g=g'/\cp=cp':=by simp at hv';exact⟨hv'.1,hv'.2.2⟩
     have c1:=hcs k' hkl
     have hgt':x<s[k']:=by simpa [List.getD,List.getElem?_eq_getElem hkl] using hgt
     have HUP2:Hid (∀ i (hi:i<s.length),k'<=i->x<s[i]):=fun i hi hik=>by
      by_cases e:i=k'
      ·subst e;exact hgt'
      ·exact UP.out i hi (by omega)
     generalize s[k']=q at c1 hgt'
     have hd1:decide ((0:Int)<((k' + 1:Nat):Int))=true:=decide_eq_true (by omega)
     have hk3:(k':Int)<(j:Int):=by omega
     clear hgt hcs hkl hk0 hv'
     go_wp2_with fail
     go_quiet (fail)
     all_goals (try go_wp2_with fail)
     go_roundw
     case rel=>exact⟨k',by go_num,by omega,HUP2.out,O3.out _,B3.out _⟩
     case measure=>simp[intOf]
    ·have HLOW:Hid (∀ (h:0<k) (hl:k-1<s.length),s[k-1]<=x):=fun h hl=>by
      have:¬x<s.getD (k-1) 0:=fun hx=>hgo ⟨h,hx⟩
      rw[List.getD_eq_getElem?_getD,List.getElem?_eq_getElem hl]at this
      simp at this
      exact this
     have HK:=hideK hk
     have HINS:Hid (insZ s x k=sortZ (idxs (m.take (j+1)))):=by
      unfold Hid
      rw[HT.out]
      exact insZ_ok HS.out (by rw[HSL.out];exact hk) (fun h=>HLOW.out h _) (fun i hi hik=>UP.out i hi hik)
     rcases Nat.eq_zero_or_pos k with hk0|hk0
     ·subst hk0
      have hd:decide ((0:Int)<((0:Nat):Int))=false:=by simp
      go_wp2_with fail
      go_quiet (fail)
      have O4:=hideK (O3.out nq)
      have B4:=hideK (B3.out nq)
      generalize wr.drewN nq=W at O4 B4 ⊢
      have hzW:=B4.out.size
      have cW:=(B4.out.cell (p:=⟨gr,j*3,none⟩) hgl).trans HE0.out
      have HCS:Hid (∀ i (hi:i<s.length),W.cell? ⟨g,i,none⟩=some (.int .i64 s[i])):=fun i hi=>by
       obtain⟨g',cp',hv',_,_,_,hcs⟩:=ownI_cells O4.out (by omega)
       obtain rfl:g=g':=by simp at hv';exact hv'.1
       exact hcs i hi
      have HGL:Hid (0<s.length->g<W.heap.size):=fun h=>by
       obtain⟨g',cp',hv',_,hg',_,_⟩:=ownI_cells O4.out h
       obtain rfl:g=g':=by simp at hv';exact hv'.1
       exact hg'
      clear c0 O2 O3 B2 B3
      obtain⟨sT,hsT⟩:∃ sT,sT=s.take (0):=⟨_,rfl⟩
      obtain⟨sD,hsD⟩:∃ sD,sD=s.drop (0):=⟨_,rfl⟩
      have HTL:Hid (sT.length=0):=by unfold Hid;rw[hsT,List.length_take,HSL.out];omega
      have HDL:Hid (sD.length=j-(0)):=by unfold Hid;rw[hsD,List.length_drop,HSL.out]
      have HNT:Hid (∀ W',Below W.heap.size W W'->∀ j u,(sT.map (Value.int .i64))[j]? = some u->W'.cell? ((⟨g,0,none⟩:Addr).add j)=some u):=by
       intro W' hW
       rw[hsT]
       exact news_take (fun i hi=>(hW.cell (p:=⟨g,i,none⟩) (HGL.out (by omega))).trans (HCS.out i hi))
      have HND:Hid (∀ W',Below W.heap.size W W'->∀ j u,(sD.map (Value.int .i64))[j]? = some u->W'.cell? ((⟨g,0,none⟩:Addr).add j)=some u):=by
       intro W' hW
       rw[hsD]
       exact news_drop (fun i hi=>(hW.cell (p:=⟨g,i,none⟩) (HGL.out (by omega))).trans (HCS.out i hi))
      have HIT:Hid (insZ s x (0)=sT++[x]++sD):=by unfold Hid insZ;rw[hsT,hsD]
      clear hsT hsD
      go_wp2_with (at_builtin;refine wpList_append_own _ rfl (.tmp 33) (.tmp 36) 84 rfl W.heap.size 2 i0 (.int .i64 0) 1 8 Tryz.underlying84 hi0 hz0 hz1 hz2 rfl (by decide) _ 0 [] rfl (ownI_lit W) ⟨g,0,none⟩ (0) cp (sT.map (Value.int .i64)) rfl (by rw[List.length_map,HTL.out,Nat.mul_one]) (HNT.out _ ((Below.refl W.heap.size W).alloc (Nat.le_refl _) _)) (ints_one _) (by unfold maxLen;omega) (by omega) (by simp) ?_)
      intro v1 w1 ho1 hg1 _
      have O5:Hid (OwnI w1 W.heap.size v1 sT):=by
       unfold Hid OwnI
       rw[HTL.out]
       simpa using ho1
      have B5:Hid (Below W.heap.size W w1):=((Below.refl _ W).alloc (Nat.le_refl _) _).grown hg1 (by simp) (fun k hk=>by simp[Value.ownBlock]at hk;omega)
      obtain⟨a1,c1',hv1,_,_⟩:=O5.out.ints
      rw[HTL.out]at hv1
      subst hv1
      have cX:=(B5.out.cell (p:=⟨gr,j*3,none⟩) (Nat.lt_of_lt_of_le hgl hzW)).trans cW
      have hz1':=B5.out.size
      clear ho1 hg1 cW
      go_wp2_with (at_builtin;refine wpList_append_own _ rfl (.tmp 38) (.tmp 44) 84 rfl W.heap.size 2 i0 (.int .i64 0) 1 8 Tryz.underlying84 hi0 hz0 hz1 hz2 rfl (by decide) _ (0) (sT.map (Value.int .i64)) rfl (by have:=ownI_alloc O5.out (.cells #[.int .i64 x] 2);unfold OwnI at this;rw[HTL.out]at this;exact this) ⟨w1.heap.size,0,none⟩ 1 1 [.int .i64 x] rfl rfl (one_newI _ _ _) (one_cellI _) (by unfold maxLen;omega) (by omega) (by simp;omega) ?_)
      intro v2 w2 ho2 hg2 _
      have O6:Hid (OwnI w2 W.heap.size v2 (sT++[x])):=by
       refine OwnI.snoc ?_
       rw[HTL.out]
       exact ho2
      have B6:=hideK (app_one B5.out hz1' (Nat.le_refl _) O5.out hg2)
      have hz2':=B6.out.size
      have HAL:Hid ((sT++[x]).length=0+1):=by unfold Hid;rw[List.length_append,HTL.out];rfl
      obtain⟨a2,c2',hv2,_,_⟩:=O6.out.ints
      rw[HAL.out]at hv2
      subst hv2
      obtain⟨sA,hsA⟩:∃ sA,sA=sT++[x]:=⟨_,rfl⟩
      rw[<-hsA]at O6 HAL HIT
      clear ho2 hg2 cX hsA
      go_wp2_with (at_builtin;refine wpList_append_own _ rfl (.tmp 46) (.tmp 49) 84 rfl W.heap.size 2 i0 (.int .i64 0) 1 8 Tryz.underlying84 hi0 hz0 hz1 hz2 rfl (by decide) _ (0+1) (sA.map (Value.int .i64)) rfl (by have:=O6.out;unfold OwnI at this;rw[HAL.out]at this;exact this) ⟨g,0,none⟩ (j-0) (cp-0) (sD.map (Value.int .i64)) rfl (by rw[List.length_map,HDL.out,Nat.mul_one]) (HND.out _ B6.out) (ints_one _) (by unfold maxLen;omega) (by omega) (by omega) ?_)
      intro v3 w3 ho3 hg3 _
      have HIL:Hid ((insZ s x (0)).length=j+1):=by unfold Hid;rw[insZ_length,HSL.out]
      have O7:Hid (OwnI w3 W.heap.size v3 (insZ s x (0))):=by
       unfold Hid OwnI
       rw[HIL.out,HIT.out,List.map_append]
       have hq:j+1=0+1+(j-0):=by omega
       rw[hq]
       exact ho3
      have B7:Hid (Below W.heap.size W w3):=B6.out.grown hg3 (by omega) (fun k hk=>(World.ownsRow.lt O6.out k hk).1)
      obtain⟨g3,cp3,hv3,_,_,hle3,_⟩:=ownI_cells O7.out (by rw[HIL.out];omega)
      rw[HIL.out]at hv3 hle3
      subst hv3
      have O8:=hideK (O7.out.mono hzW)
      have B8:=hideK (B4.out.trans (B7.out.mono hzW))
      clear ho3 hg3
      go_wp2_with fail
      go_roundw
      case rel=>exact⟨j+1,g3,cp3,insZ s x (0),by go_num,rfl,by omega,hle3,HINS.out,O8.out,B8.out⟩
      case measure=>simp[intOf];omega
     ·obtain⟨k',rfl⟩:∃ k',k=k' + 1:=⟨k-1,by omega⟩
      have hkl:k' < s.length:=by rw[HSL.out];omega
      obtain⟨g',cp',hv',_,_,_,hcs⟩:=ownI_cells O2.out (by omega)
      obtain⟨rfl,rfl⟩:g=g'/\cp=cp':=by simp at hv';exact⟨hv'.1,hv'.2.2⟩
      have c1:=hcs k' hkl
      have hle:¬x<s[k']:=by have:=HLOW.out (by omega) (by simpa using hkl);simp at this;omega
      have hle':decide (x<s[k'])=false:=decide_eq_false hle
      generalize s[k']=q at c1 hle hle'
      have hd1:decide ((0:Int)<((k' + 1:Nat):Int))=true:=decide_eq_true (by omega)
      have hk3:(k':Int)<(j:Int):=by omega
      clear hcs hkl hk0 hv'
      go_wp2_with fail
      go_quiet (fail)
      have O4:=hideK (O3.out nq)
      have B4:=hideK (B3.out nq)
      generalize wr.drewN nq=W at O4 B4 ⊢
      have hzW:=B4.out.size
      have cW:=(B4.out.cell (p:=⟨gr,j*3,none⟩) hgl).trans HE0.out
      have HCS:Hid (∀ i (hi:i<s.length),W.cell? ⟨g,i,none⟩=some (.int .i64 s[i])):=fun i hi=>by
       obtain⟨g',cp',hv',_,_,_,hcs⟩:=ownI_cells O4.out (by omega)
       obtain rfl:g=g':=by simp at hv';exact hv'.1
       exact hcs i hi
      have HGL:Hid (0<s.length->g<W.heap.size):=fun h=>by
       obtain⟨g',cp',hv',_,hg',_,_⟩:=ownI_cells O4.out h
       obtain rfl:g=g':=by simp at hv';exact hv'.1
       exact hg'
      clear c0 O2 O3 B2 B3
      obtain⟨sT,hsT⟩:∃ sT,sT=s.take (k' + 1):=⟨_,rfl⟩
      obtain⟨sD,hsD⟩:∃ sD,sD=s.drop (k' + 1):=⟨_,rfl⟩
      have HTL:Hid (sT.length=k' + 1):=by unfold Hid;rw[hsT,List.length_take,HSL.out];omega
      have HDL:Hid (sD.length=j-(k' + 1)):=by unfold Hid;rw[hsD,List.length_drop,HSL.out]
      have HNT:Hid (∀ W',Below W.heap.size W W'->∀ j u,(sT.map (Value.int .i64))[j]? = some u->W'.cell? ((⟨g,0,none⟩:Addr).add j)=some u):=by
       intro W' hW
       rw[hsT]
       exact news_take (fun i hi=>(hW.cell (p:=⟨g,i,none⟩) (HGL.out (by omega))).trans (HCS.out i hi))
      have HND:Hid (∀ W',Below W.heap.size W W'->∀ j u,(sD.map (Value.int .i64))[j]? = some u->W'.cell? ((⟨g,k' + 1,none⟩:Addr).add j)=some u):=by
       intro W' hW
       rw[hsD]
       exact news_drop (fun i hi=>(hW.cell (p:=⟨g,i,none⟩) (HGL.out (by omega))).trans (HCS.out i hi))
      have HIT:Hid (insZ s x (k' + 1)=sT++[x]++sD):=by unfold Hid insZ;rw[hsT,hsD]
      clear hsT hsD
      go_wp2_with (at_builtin;refine wpList_append_own _ rfl (.tmp 33) (.tmp 36) 84 rfl W.heap.size 2 i0 (.int .i64 0) 1 8 Tryz.underlying84 hi0 hz0 hz1 hz2 rfl (by decide) _ 0 [] rfl (ownI_lit W) ⟨g,0,none⟩ (k' + 1) cp (sT.map (Value.int .i64)) rfl (by rw[List.length_map,HTL.out,Nat.mul_one]) (HNT.out _ ((Below.refl W.heap.size W).alloc (Nat.le_refl _) _)) (ints_one _) (by unfold maxLen;omega) (by omega) (by simp) ?_)
      intro v1 w1 ho1 hg1 _
      have O5:Hid (OwnI w1 W.heap.size v1 sT):=by
       unfold Hid OwnI
       rw[HTL.out]
       simpa using ho1
      have B5:Hid (Below W.heap.size W w1):=((Below.refl _ W).alloc (Nat.le_refl _) _).grown hg1 (by simp) (fun k hk=>by simp[Value.ownBlock]at hk;omega)
      obtain⟨a1,c1',hv1,_,_⟩:=O5.out.ints
      rw[HTL.out]at hv1
      subst hv1
      have cX:=(B5.out.cell (p:=⟨gr,j*3,none⟩) (Nat.lt_of_lt_of_le hgl hzW)).trans cW
      have hz1':=B5.out.size
      clear ho1 hg1 cW
      go_wp2_with (at_builtin;refine wpList_append_own _ rfl (.tmp 38) (.tmp 44) 84 rfl W.heap.size 2 i0 (.int .i64 0) 1 8 Tryz.underlying84 hi0 hz0 hz1 hz2 rfl (by decide) _ (k' + 1) (sT.map (Value.int .i64)) rfl (by have:=ownI_alloc O5.out (.cells #[.int .i64 x] 2);unfold OwnI at this;rw[HTL.out]at this;exact this) ⟨w1.heap.size,0,none⟩ 1 1 [.int .i64 x] rfl rfl (one_newI _ _ _) (one_cellI _) (by unfold maxLen;omega) (by omega) (by simp;omega) ?_)
      intro v2 w2 ho2 hg2 _
      have O6:Hid (OwnI w2 W.heap.size v2 (sT++[x])):=by
       refine OwnI.snoc ?_
       rw[HTL.out]
       exact ho2
      have B6:=hideK (app_one B5.out hz1' (Nat.le_refl _) O5.out hg2)
      have hz2':=B6.out.size
      have HAL:Hid ((sT++[x]).length=k' + 1+1):=by unfold Hid;rw[List.length_append,HTL.out];rfl
      obtain⟨a2,c2',hv2,_,_⟩:=O6.out.ints
      rw[HAL.out]at hv2
      subst hv2
      obtain⟨sA,hsA⟩:∃ sA,sA=sT++[x]:=⟨_,rfl⟩
      rw[<-hsA]at O6 HAL HIT
      clear ho2 hg2 cX hsA
      by_cases hcp:k' + 1=cp
      ·obtain rfl:j=k' + 1:=by omega
       subst hcp
       obtain rfl:sD=[]:=List.eq_nil_of_length_eq_zero (by rw[HDL.out];omega)
       go_wp2_with (at_builtin;refine wpList_append_own _ rfl (.tmp 46) (.tmp 49) 84 rfl W.heap.size 2 i0 (.int .i64 0) 1 8 Tryz.underlying84 hi0 hz0 hz1 hz2 rfl (by decide) _ (k' + 1+1) (sA.map (Value.int .i64)) rfl (by have:=O6.out;unfold OwnI at this;rw[HAL.out]at this;exact this) ⟨g,0,none⟩ 0 0 [] rfl rfl (fun j u hu=>by simp at hu) (fun u hu=>by simp at hu) (by unfold maxLen;omega) (by omega) (by omega) ?_)
       intro v3 w3 ho3 hg3 _
       have HIL:Hid ((insZ s x (k' + 1)).length=k' + 1+1):=by unfold Hid;rw[insZ_length,HSL.out]
       have O7:Hid (OwnI w3 W.heap.size v3 (insZ s x (k' + 1))):=by
        unfold Hid OwnI
        rw[HIL.out,HIT.out,List.append_nil]
        simpa using ho3
       have B7:Hid (Below W.heap.size W w3):=B6.out.grown hg3 (by omega) (fun k hk=>(World.ownsRow.lt O6.out k hk).1)
       obtain⟨g3,cp3,hv3,_,_,hle3,_⟩:=ownI_cells O7.out (by rw[HIL.out];omega)
       rw[HIL.out]at hv3 hle3
       subst hv3
       have O8:=hideK (O7.out.mono hzW)
       have B8:=hideK (B4.out.trans (B7.out.mono hzW))
       clear ho3 hg3
       go_wp2_with fail
       go_roundw
       case rel=>exact⟨k' + 1+1,g3,cp3,insZ s x (k' + 1),by go_num,rfl,by omega,hle3,HINS.out,O8.out,B8.out⟩
       case measure=>simp[intOf];omega
      ·have hcp':k' + 1<cp:=by omega
       go_wp2_with (at_builtin;refine wpList_append_own _ rfl (.tmp 46) (.tmp 49) 84 rfl W.heap.size 2 i0 (.int .i64 0) 1 8 Tryz.underlying84 hi0 hz0 hz1 hz2 rfl (by decide) _ (k' + 1+1) (sA.map (Value.int .i64)) rfl (by have:=O6.out;unfold OwnI at this;rw[HAL.out]at this;exact this) ⟨g,k' + 1,none⟩ (j-(k' + 1)) (cp-(k' + 1)) (sD.map (Value.int .i64)) rfl (by rw[List.length_map,HDL.out,Nat.mul_one]) (HND.out _ B6.out) (ints_one _) (by unfold maxLen;omega) (by omega) (by omega) ?_)
       intro v3 w3 ho3 hg3 _
       have HIL:Hid ((insZ s x (k' + 1)).length=j+1):=by unfold Hid;rw[insZ_length,HSL.out]
       have O7:Hid (OwnI w3 W.heap.size v3 (insZ s x (k' + 1))):=by
        unfold Hid OwnI
        rw[HIL.out,HIT.out,List.map_append]
        have hq:j+1=k' + 1+1+(j-(k' + 1)):=by omega
        rw[hq]
        exact ho3
       have B7:Hid (Below W.heap.size W w3):=B6.out.grown hg3 (by omega) (fun k hk=>(World.ownsRow.lt O6.out k hk).1)
       obtain⟨g3,cp3,hv3,_,_,hle3,_⟩:=ownI_cells O7.out (by rw[HIL.out];omega)
       rw[HIL.out]at hv3 hle3
       subst hv3
       have O8:=hideK (O7.out.mono hzW)
       have B8:=hideK (B4.out.trans (B7.out.mono hzW))
       clear ho3 hg3
       go_wp2_with fail
       go_roundw
       case rel=>exact⟨j+1,g3,cp3,insZ s x (k' + 1),by go_num,rfl,by omega,hle3,HINS.out,O8.out,B8.out⟩
       case measure=>simp[intOf];omega
  ·obtain rfl:j=n:=by omega
   have HT:Hid (sortZ (idxs (m.take j))=sortZ (idxs m)):=by
    unfold Hid
    rw[List.take_of_length_le (by rw[HN.out];omega)]
   have O2:Hid (OwnI wr w.heap.size (.slice (some ⟨g,0,none⟩) j cp) (sortZ (idxs m))):=by rw[<-HT.out,<-HS.out];exact O1.out
   go_wp2_with fail
   go_ret
   exact⟨_,rfl,O2.out,GB.out⟩
end Go.Proofs.YtpddanmnlkcdpaaGreatDoor.Kp

