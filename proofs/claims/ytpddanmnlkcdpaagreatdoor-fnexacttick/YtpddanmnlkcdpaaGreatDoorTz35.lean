/- Texts put together: KpFind, ShaAllA, TkIter. -/
import Derived.Test.YtpddanmnlkcdpaaGreatDoorTz29
import Derived.Test.YtpddanmnlkcdpaaGreatDoorTz33
import Derived.Test.YtpddanmnlkcdpaaGreatDoorTz22
import Derived.Test.YtpddanmnlkcdpaaGreatDoorTz18
import Derived.BigRegion
import Derived.StillTailTactics
import Derived.RangeFuncNested
import Derived.RangeFuncBound
import Derived.RangeFuncCalls
import Derived.RangeFuncLeaves
import Derived.RangeFuncBox
import Derived.Shelf.Abstract
import Derived.Shelf.RegionOpen
import Derived.WalkKit
import Derived.OwnWalkIn
import Derived.TacticsInMore
import Derived.LoopNIn
import Derived.LoopIn
import Derived.Maps.AppendAt
import Derived.Stop.RegionWithIn
set_option maxRecDepth 100000
set_option maxHeartbeats 8000000
namespace Go.Proofs.YtpddanmnlkcdpaaGreatDoor.Kp
open Go.RowKit
open Ls (cells3 set3_all)
theorem find_none {m:List MR} {i:Int} (h:∀ j (hj:j<m.length),¬m[j].1.1=i):hasR (recs m) i=false:=by
 rw[hasR_recs,<-Bool.not_eq_true,List.any_eq_true]
 rintro⟨x,hx,he⟩
 obtain⟨j,hj,rfl⟩:=List.getElem_of_mem hx
 exact h j hj (by simpa using he)
theorem find_some {m:List MR} {i:Int} {j:Nat} (hj:j<m.length) (h:m[j].1.1=i):hasR (recs m) i=true:=by
 rw[hasR_recs,List.any_eq_true]
 exact⟨m[j],List.getElem_mem hj,by simpa using h⟩
theorem find_any (g base n:Nat) (i:Int) (v:Value) (m:List MR) (w:World) (hc:w.cell? ⟨g,0,none⟩=some v) (hg:g<w.heap.size) (ho:OwnR w base v m) (hsl:∀ x∈m,∃ a n cap,x.2=.slice a n cap) (hn:m.length=n) (hm:n<=1048576) :
  Calls Tryz.prog 129 #[.pointer (some ⟨g,0,none⟩),.int .i64 i] w fun r w' =>
   ((∃ (j:Nat) (hj:j<m.length),m[j].1.1=i/\(∀ k (hk:k<j),¬(m[k]'(Nat.lt_trans hk hj)).1.1=i)/\r=.returned (.tuple #[.agg #[.int .i64 i,.string m[j].1.2.1,m[j].2],.bool true])) ∨
   ((∀ j (hj:j<m.length),¬m[j].1.1=i)/\r=.returned (.tuple #[.agg #[.int .i64 0,.string ⟨#[]⟩,.slice none 0 0],.bool false])))/\Below w.heap.size w w':=by
 have HN:=hideK hn
 obtain⟨a,cap,rfl⟩:=ho.one
 have HC:=hideK (fun h0=>ho.cells h0)
 rw[hn]at hc
 have C0:=hideK ((Cx.nil w).new (.cells #[.int .i64 0,.string ⟨#[]⟩,.slice none 0 0] 129))
 have hc0:(w.alloc (.cells #[.int .i64 0,.string ⟨#[]⟩,.slice none 0 0] 129)).cell? ⟨g,0,none⟩=some (.slice a n cap):=(C0.out.low.cell (p:=⟨g,0,none⟩) hg).trans hc
 have HSL:=hideK hsl
 clear hc ho hn hsl
 go_enter Tryz.func129,Tryz.ntmps129
 go_wp2_with fail
 go_loopw [13,7] (fun jv _ wr=>∃ (j:Nat),jv=.int .i64 j/\j<=n/\(∀ k (hk:k<m.length),k<j->¬m[k].1.1=i)/\Cx w wr [(w.heap.size,.cells #[.int .i64 0,.string ⟨#[]⟩,.slice none 0 0] 129)]) (fun jv _ _=>n-(intOf jv).toNat)
 case atStart=>exact⟨0,rfl,Nat.zero_le _,fun k _ h=>absurd h (Nat.not_lt_zero _),C0.out⟩
 case round =>
  obtain⟨j,rfl,hj,hno,hcx⟩:=hrel
  have NO:=hideK hno
  have CX:=hideK hcx
  clear hno hcx
  by_cases hlt:j<n
  ·have hlt':(j:Int)<(n:Int):=by omega
   have hjm:j<m.length:=by rw[HN.out];exact hlt
   obtain⟨gr,cp,hv,_,hgl,_,hcl⟩:=HC.out (by rw[HN.out];omega)
   cases hv
   obtain⟨e0,e1,e2⟩:=hcl j hjm
   have c0:=(CX.out.low.cell (p:=⟨gr,j*3,none⟩) hgl).trans e0
   have c1:=(CX.out.low.cell (p:=⟨gr,j*3+1,none⟩) hgl).trans e1
   have c2:=(CX.out.low.cell (p:=⟨gr,j*3+2,none⟩) hgl).trans e2
   have HI:Hid (∀ x:MR,x=m[j]->x.1.1=i->(∃ (j:Nat) (hj:j<m.length),m[j].1.1=i/\(∀ k (hk:k<j),¬(m[k]'(Nat.lt_trans hk hj)).1.1=i)/\(.tuple #[.agg #[.int .i64 i,.string x.1.2.1,x.2],.bool true]:Value)=.tuple #[.agg #[.int .i64 i,.string m[j].1.2.1,m[j].2],.bool true])):=fun x hx he=>⟨j,hjm,by rw[<-hx];exact he,fun k hk=>NO.out k (Nat.lt_trans hk hjm) hk,by rw[hx]⟩
   have HQ:Hid (∀ x:MR,x=m[j]->¬x.1.1=i->∀ k (hk:k<m.length),k<j+1->¬m[k].1.1=i):=fun x hx he k hk hk1=>by
    by_cases hkj:k<j
    ·exact NO.out k hk hkj
    ·have:k=j:=by omega
     subst this
     rw[<-hx]
     exact he
   obtain⟨x,hx⟩:∃ x,x=m[j]:=⟨_,rfl⟩
   obtain⟨ap,np,cp,hxv⟩:=HSL.out x (by rw[hx];exact List.getElem_mem hjm)
   have HI1:=hideK (HI.out x hx)
   have HQ1:=hideK (HQ.out x hx)
   rw[<-hx]at c0 c1 c2
   clear e0 e1 e2 hcl hx HI HQ hjm
   obtain⟨⟨xi,xt,xp⟩,xv⟩:=x
   dsimp only at c0 c1 c2 HI1 HQ1 hxv
   subst hxv
   have C1:=hideK (CX.out.new (.cells #[.int .i64 xi,.string xt,.slice ap np cp] 129))
   go_upto_region 4 with fail
   generalize wr.alloc (.cells #[.int .i64 xi,.string xt,.slice ap np cp] 129)=W1 at C1 ⊢
   generalize wr.heap.size=g1 at C1 ⊢
   obtain⟨q0,q1,q2⟩:=cells3 (C1.out.get 1 rfl)
   obtain⟨d0,d1,d2⟩:=cells3 (C1.out.get 0 rfl)
   clear c0 c1 c2
   by_cases he:xi=i
   ·subst he
    have HI2:=hideK (HI1.out rfl)
    have ff:=fun o=>frozen_of_row W1 w.heap.size o _ _ (C1.out.get 1 rfl)
    have s3:=set3_all (C1.out.get 1 rfl) (.int .i64 xi) (.string xt) (.slice ap np cp)
    have E3:=hideK (set3_low C1.out.low (Nat.le_refl _) (.int .i64 xi) (.string xt) (.slice ap np cp))
    go_wp2_with fail
    obtain⟨jj,hjj,k1,k2,k3⟩:=HI2.out
    exact bodyPost_ret (v:=.tuple #[.agg #[.int .i64 xi,.string xt,.slice ap np cp],.bool true]) (by simp[results,Tryz.results129,go_sem,s3.1,s3.2.1,s3.2.2]) rfl ⟨.inl ⟨jj,hjj,k1,k2,by rw[k3]⟩,E3.out⟩
   ·have he':(xi==i)=false:=beq_eq_false_iff_ne.2 he
    have HQ2:=hideK (HQ1.out he)
    clear he
    have C2:Hid (Cx w W1 [(w.heap.size,.cells #[.int .i64 0,.string ⟨#[]⟩,.slice none 0 0] 129)]):=⟨C1.out.low,fun x hx=>C1.out.blk x (List.mem_cons_of_mem _ hx)⟩
    go_wp2_with fail
    go_roundw
    case rel=>exact⟨j+1,by go_num,by omega,HQ2.out,C2.out⟩
    case measure=>simp[intOf];omega
  ·obtain rfl:j=n:=by omega
   have NN:Hid (∀ k (hk:k<m.length),¬m[k].1.1=i):=fun k hk=>NO.out k hk (by rw[<-HN.out];exact hk)
   obtain⟨q0,q1,q2⟩:=cells3 (CX.out.get 0 rfl)
   have ff:=fun o=>frozen_of_row wr w.heap.size o _ _ (CX.out.get 0 rfl)
   have s3:=set3_all (CX.out.get 0 rfl) (.int .i64 0) (.string ⟨#[]⟩) (.slice none 0 0)
   have E3:=hideK (set3_low CX.out.low (Nat.le_refl _) (.int .i64 0) (.string ⟨#[]⟩) (.slice none 0 0))
   go_wp2_with fail
   exact bodyPost_ret (v:=.tuple #[.agg #[.int .i64 0,.string ⟨#[]⟩,.slice none 0 0],.bool false]) (by simp[results,Tryz.results129,go_sem,s3.1,s3.2.1,s3.2.2]) rfl ⟨.inr ⟨NN.out,rfl⟩,E3.out⟩
theorem has_any (g base n:Nat) (i:Int) (v:Value) (m:List MR) (w:World) (hc:w.cell? ⟨g,0,none⟩=some v) (hg:g<w.heap.size) (ho:OwnR w base v m) (hsl:∀ x∈m,∃ a n cap,x.2=.slice a n cap) (hn:m.length=n) (hm:n<=1048576) :
  Calls Tryz.prog 98 #[.pointer (some ⟨g,0,none⟩),.int .i64 i] w fun r w'=>r=.returned (.bool (hasR (recs m) i))/\Below w.heap.size w w':=by
 have HF:=hideK (find_any g base n i v m w hc hg ho hsl hn hm)
 have HSL:=hideK hsl
 clear hc ho hsl
 go_enter Tryz.func98,Tryz.ntmps98
 go_wp2_with fail
 refine HF.out.mono ?_
 rintro e w1 ⟨⟨j,hj,he,_,rfl⟩|⟨hno,rfl⟩,hb⟩
 ·obtain⟨ap,np,cp,hv⟩:=HSL.out m[j] (List.getElem_mem hj)
  rw[hv]
  have HB:=hideK (hb.alloc hb.size (.cells #[.int .i64 i,.string m[j].1.2.1,.slice ap np cp] 129))
  have HH:=hideK (find_some hj he)
  clear hb he
  go_wp2_with fail
  go_ret
  exact⟨by rw[HH.out];rfl,HB.out⟩
 ·have HB:=hideK (hb.alloc hb.size (.cells #[.int .i64 0,.string ⟨#[]⟩,.slice none 0 0] 129))
  have HH:=hideK (find_none hno)
  clear hb hno
  go_wp2_with fail
  go_ret
  exact⟨by rw[HH.out];rfl,HB.out⟩
end Go.Proofs.YtpddanmnlkcdpaaGreatDoor.Kp


namespace Go.Proofs.YtpddanmnlkcdpaaGreatDoor.Sh
open Go.RowKit
theorem hideA {p:Prop} (h:p):Hid p:=h
theorem app_own {B:Nat} {w wr w1:World} {v:Value} {n:Nat} {f:Nat->Nat} {o:Obj} (hbel:Below B w wr) (hB:B<=wr.heap.size) (hown:OwnB wr B v n f) (hgrow:(wr.alloc o).grownBy w1 v.ownBlock):Below B w w1:=by
 obtain⟨g,cap,rfl,hg,_⟩:=hown
 refine(hbel.alloc hB o).grown hgrow (by simp;omega) ?_
 intro k hk
 simp[Value.ownBlock]at hk
 omega
theorem four_cell (a b c d:Int):∀ u∈[Value.int .u8 a,Value.int .u8 b,Value.int .u8 c,Value.int .u8 d],u.oneCell'=true:=by
 intro u hu
 simp at hu
 rcases hu with rfl|rfl|rfl|rfl<;>rfl
theorem cell_one (W:World) (x:Value) (t:TypeId):(W.alloc (.cells #[x] t)).cell? ((⟨W.heap.size,0,none⟩:Addr).add 0)=some x:=one_new W x t 0 x rfl
theorem all_of (hblk:∀ (s:Nat->Int) (gs c:Nat) (t:ByteArray) (w:World),t.size=64->gs<w.heap.size->(∀ j,j<8->w.cell? ⟨gs,j,none⟩=some (.int .i64 (s j)))->(∀ j,0<=s j/\s j<4294967296) ->
   Calls Tryz.prog 193 #[.slice (some ⟨gs,0,none⟩) 8 c,.string t] w fun e w'=>∃ g c',e=.returned (.slice (some ⟨g,0,none⟩) 8 c')/\w.heap.size<=g/\g<w'.heap.size/\(∀ j,j<8->w'.cell? ⟨g,j,none⟩=some (.int .i64 (blk (bt t) s j)))/\Below w.heap.size w w')
  (t:ByteArray) (w:World) (ht:t.size<=1048576) :
  Calls Tryz.prog 167 #[.string t] w fun e w'=>e=.returned (.string (sha t))/\Below w.heap.size w w':=by
 have HBK:=hideA hblk
 clear hblk
 obtain⟨i0,hi,hz0,hz1,hz2⟩:=info_parts Nu.Tryz.infoJ5
 obtain⟨ch,hch⟩:∃ c,c=chunks t.size:=⟨_,rfl⟩
 have hr:=chunks_room t.size
 have hti:=chunks_tight t.size
 rw[<-hch]at hr hti
 have HCH:=hideA hch
 clear hch
 obtain⟨V,w1,hcv,hO,hB⟩:∃ V w1,(convert 9 168 (.string t)).run Tryz.prog w=.ok V w1/\OwnB w1 w.heap.size V t.size (bt t)/\Below w.heap.size w w1 :=
  ⟨_,_,run_bytes_of_string (P:=Tryz.prog) w 9 168 5 t Tryz.underlying9 Tryz.underlying168 Tryz.underlying5,own_of_string w w.heap.size t 5 (by unfold maxLen;omega) (Nat.le_refl _),(Below.refl _ _).drew.alloc (Nat.le_refl _) _⟩
 have HO:=hideA hO
 have HB:=hideA hB
 clear hO hB
 go_enter Tryz.func167,Tryz.ntmps167
 go_wp2_with (at_builtin;refine wpList_append_b rfl _ _ 168 rfl w.heap.size 5 i0 Tryz.underlying168 hi hz0 hz1 hz2 V t.size (bt t) rfl (HO.out.alloc _) ⟨w1.heap.size,0,none⟩ 1 128 rfl (cell_one w1 _ _) (by omega) (by have:=HB.out.size;simp;omega) ?_;intro v2 w2 hO2 hg2)
 have HO2:=hideA (hO2.congr (fun j hj=>pad_first t j hj))
 have HB2:=hideA (app_own HB.out HB.out.size HO.out hg2)
 clear hO2 hg2 HO HB
 go_loopw [3] (fun v wr=>∃ n:Nat,OwnB wr w.heap.size v n (pad t)/\t.size+1<=n/\n+8<=ch*64/\Below w.heap.size w wr) (fun v _=>match v with|.slice _ n _=>ch*64-n|_=>0)
 case atStart=>exact⟨t.size+1,HO2.out,by omega,by omega,HB2.out⟩
 case round =>
  obtain⟨n,hown,hn1,hn2,hbel⟩:=hrel
  have HO3:=hideA hown
  have HB3:=hideA hbel
  obtain⟨g,cap,hv,hcap⟩:=hown.slice
  subst hv
  clear hown hbel
  by_cases hmod:n%64=56
  ·have HN:=hideA (show n=ch*64-8 by omega)
   have em:((n:Int)%64==56)=true:=by simp;omega
   have em2:((n:Int)%64 != 56)=false:=by simp;omega
   go_wp2_with fail
   go_loopw [3,5] (fun v i wr=>∃ m:Nat,i=.int .i64 (56-8*(m:Int))/\m<=8/\OwnB wr w.heap.size v (n+m) (pad t)/\Below w.heap.size w wr) (fun _ i _=>(intOf i+8).toNat)
   case atStart=>exact⟨0,rfl,by omega,HO3.out,HB3.out⟩
   case round =>
    obtain⟨m,rfl,hm,hown,hbel⟩:=hrel
    have HO5:=hideA hown
    have HB5:=hideA hbel
    obtain⟨g5,cap5,hv,hcap5⟩:=hown.slice
    subst hv
    clear hown hbel
    by_cases hm8:m<8
    ·have q1:IntKind.u64.wrap (56-8*(m:Int))=56-8*(m:Int):=by simp[IntKind.wrap,IntKind.bits,IntKind.signed];omega
     have q2:(56-8*(m:Int)).toNat=56-8*m:=by omega
     have q3:0<=56-8*(m:Int):=by omega
     obtain⟨x,hx⟩:∃ x,x=t.size*8/2 ^ (56-8*m)%256:=⟨_,rfl⟩
     have HV:Hid (8*(t.size:Int)/2 ^ (56-8*m)%256=(x:Int)):=by
      unfold Hid
      rw[hx,Nat.mul_comm t.size 8]
      simp
     have HP:Hid (x=pad t (n+m)):=by
      unfold Hid
      rw[hx,HN.out,HCH.out,pad_len t m hm8]
     clear hx
     go_wp2_with (at_builtin;refine wpList_append_b rfl _ _ 168 rfl w.heap.size 5 i0 Tryz.underlying168 hi hz0 hz1 hz2 (.slice (some ⟨g5,0,none⟩) (n+m) cap5) (n+m) (pad t) rfl (HO5.out.alloc _) ⟨wr.heap.size,0,none⟩ 1 x rfl (by rw[cell_one];exact congrArg some (congrArg (Value.int .u8) HV.out)) (by omega) (by have:=HB5.out.size;simp;omega) ?_;intro v6 w6 hO6 hg6;have HO6:=hideA (hO6.congr (fun j _=>pad_app t (n+m) x HP.out j));have HB6:=hideA (app_own HB5.out HB5.out.size HO5.out hg6);clear hO6 hg6)
     go_roundw
     case rel=>exact⟨m+1,by go_num,by omega,HO6.out,HB6.out⟩
     case measure=>simp[intOf];omega
    ·have HNM:Hid (n+m=ch*64):=by
      have:=HN.out
      unfold Hid
      omega
     have q3:¬0<=56-8*(m:Int):=by omega
     go_wp2_with fail
     refine(start_any wr).mono ?_
     rintro e w7 ⟨rfl,hw7⟩
     have HS7:Hid (∀ j,j<8->w7.cell? ⟨wr.heap.size,j,none⟩=some (.int .i64 (shaS t 0 j))):=by
      intro j hj
      rw[hw7]
      exact(IsB.new wr 2 .i64 8 firstF).cell hj
     have HO7:Hid (OwnB w7 w.heap.size (.slice (some ⟨g5,0,none⟩) (n+m) cap5) (n+m) (pad t)):=by
      unfold Hid
      rw[hw7]
      exact HO5.out.alloc _
     have HB7:Hid (Below w.heap.size w w7):=by
      unfold Hid
      rw[hw7]
      exact HB5.out.alloc HB5.out.size _
     have HZ7:Hid (wr.heap.size<w7.heap.size):=by
      unfold Hid
      rw[hw7]
      simp
     generalize n+m=L at HO7 HNM hcap5 ⊢
     generalize wr.heap.size=G7 at HS7 HZ7 ⊢
     clear hw7 HO5 HB5
     go_wp2_with fail
     go_loopw [6,7] (fun st i wr=>∃ k gs c:Nat,st=.slice (some ⟨gs,0,none⟩) 8 c/\i=.int .i64 (64*(k:Int))/\k<=ch/\gs<wr.heap.size/\(∀ j,j<8->wr.cell? ⟨gs,j,none⟩=some (.int .i64 (shaS t k j)))/\OwnB wr w.heap.size (.slice (some ⟨g5,0,none⟩) L cap5) L (pad t)/\Below w.heap.size w wr) (fun _ i _=>ch*64-(intOf i).toNat)
     case atStart=>exact⟨0,G7,8,rfl,rfl,Nat.zero_le _,HZ7.out,HS7.out,HO7.out,HB7.out⟩
     case round =>
      obtain⟨k,gs,c,rfl,rfl,hk,hgs,hcs,hown,hbel⟩:=hrel
      have HC8:=hideA hcs
      have HO8:=hideA hown
      have HB8:=hideA hbel
      have HG8:=hideA hgs
      clear hcs hown hbel hgs
      by_cases hkc:k<ch
      ·have e1:64*(k:Int)<(L:Int):=by have:=HNM.out;omega
       have e2:(64*(k:Int)).toNat=64*k:=by omega
       have e3:(64*(k:Int)+64).toNat=64*k+64:=by omega
       have e4:64*k+64-64*k=64:=by omega
       have e5:IntKind.i64.wrap (64*(k:Int)+64)=64*(k:Int)+64:=by simp[IntKind.wrap,IntKind.bits,IntKind.signed];omega
       have e6:64*(k:Int)+64<=(cap5:Int):=by have:=HNM.out;omega
       have e7:0<=64*(k:Int)+64:=by omega
       have e8:0<=64*(k:Int):=by omega
       have e9:64*(k:Int)<=64*(k:Int)+64:=by omega
       have e10:¬cap5=64*k:=by have:=HNM.out;omega
       have hcv8:=HO8.out.piece (P:=Tryz.prog) (src:=168) (dst:=9) (64*k) 64 (cap5-64*k) (by have:=HNM.out;omega) (pad_lt t) Tryz.underlying168 Tryz.underlying5 Tryz.underlying9
       go_wp2_with fail
       refine(HBK.out (shaS t k) gs c (strF 64 (blkB t k)) wr (strF_size 64 _) HG8.out HC8.out (shaS_range t k)).mono ?_
       rintro e w9 ⟨g9,c9,rfl,hg9a,hg9b,hcl9,hb9⟩
       rw[blk_str]at hcl9
       have HC9:=hideA hcl9
       have HO9:=hideA (HO8.out.below hb9 (Nat.le_refl _))
       have HB9:=hideA (HB8.out.trans (hb9.mono HB8.out.size))
       have HG9:=hideA hg9b
       clear hcl9 hb9 hg9a hg9b
       go_wp2_with fail
       go_roundw
       case rel=>exact⟨k+1,g9,c9,rfl,by go_num,by omega,HG9.out,HC9.out,HO9.out,HB9.out⟩
       case measure=>simp[intOf];omega
      ·have e1:¬64*(k:Int)<(L:Int):=by have:=HNM.out;omega
       have HSK:Hid (shaS t k=shaS t (chunks t.size)):=by
        unfold Hid
        rw[<-HCH.out]
        congr 1
        have:=HNM.out
        omega
       go_wp2_with fail
       obtain⟨w8,hw8⟩:∃ x,x=wr:=⟨_,rfl⟩
       have HW8:=hideA hw8
       clear hw8
       have HE8:=hideA (own_empty wr wr.heap.size 5 (Nat.le_refl _))
       have HL8:=hideA ((Below.refl wr.heap.size wr).alloc (Nat.le_refl _) (.cells #[] 5))
       go_loopw [8,9] (fun v i wo=>∃ j:Nat,i=.int .i64 j/\j<=8/\wo.ownsRow w8.heap.size 5 1 v (4*j) (rowF .u8 (4*j) (fun q=>(outF (shaS t k) q:Nat))).toList/\Below w8.heap.size w8 wo) (fun _ i _=>8-(intOf i).toNat)
       case atStart =>
        refine⟨0,rfl,by omega,?_,?_⟩
        ·rw[HW8.out];exact HE8.out
        ·rw[HW8.out];exact HL8.out
       case round =>
        rw[<-HW8.out]at HC8 HO8 HB8 HG8
        obtain⟨j,rfl,hj,hown,hbel⟩:=hrel
        have HOj:=hideA hown
        have HBj:=hideA hbel
        by_cases hj8:j<8
        ·obtain⟨x,hx⟩:∃ x,x=shaS t k j:=⟨_,rfl⟩
         have cs:wr.cell? ⟨gs,j,none⟩=some (.int .i64 x):=by rw[hbel.cell (p:=⟨gs,j,none⟩) HG8.out,HC8.out j hj8,hx]
         have lj:(j:Int)<8:=by omega
         have HX:=hideA hx
         have hsz9:w8.heap.size<=wr.heap.size:=hbel.size
         clear hx hbel hown
         go_wp2_with (at_builtin;refine wpList_append_own _ rfl _ _ 168 rfl w8.heap.size 5 i0 (.int .u8 0) 1 1 Tryz.underlying168 hi hz0 hz1 hz2 rfl (by decide) _ _ _ rfl (HOj.out.alloc _) ⟨wr.heap.size,0,none⟩ 4 4 [.int .u8 (x/16777216%256),.int .u8 (x/65536%256),.int .u8 (x/256%256),.int .u8 (x%256)] rfl rfl (four_new wr _ _ _ _ _) (four_cell _ _ _ _) (by unfold maxLen;omega) (by omega) (by simp;omega) ?_;intro v6 w6 hO6 hg6 _;have HB6:=hideA (Nu.app_below HBj.out (Nat.le_refl _) HOj.out hg6);have HO6:=hideA hO6;clear hO6 hg6)
         go_roundw
         case rel =>
          refine⟨j+1,by go_num,by omega,?_,HB6.out⟩
          have e:=HO6.out
          rw[out_four (shaS t k) j _ _ _ _ (by rw[HX.out]) (by rw[HX.out]) (by rw[HX.out]) (by rw[HX.out])]at e
          rw[show 4*(j+1)=4*j+4 by omega]at e ⊢
          exact e
         case measure=>simp[intOf];omega
        ·have hown8:wr.ownsRow w8.heap.size 5 1 u8 32 (rowF .u8 32 (fun q=>(outF (shaS t k) q:Nat))).toList:=by
          have e:j=8:=by omega
          rw[e]at hown
          exact hown
         have hcv9:=own_str (P:=Tryz.prog) (src:=168) (dst:=9) hown8 (outF_lt _) Tryz.underlying168 Tryz.underlying5 Tryz.underlying9
         have HFB:=hideA (HB8.out.trans (hbel.mono HB8.out.size))
         clear hown hown8 hbel
         go_wp2_with fail
         go_ret
         refine⟨Nu.ret_strJ ?_,HFB.out⟩
         rw[HSK.out]
         rfl
  ·have em:((n:Int)%64==56)=false:=by simp;omega
   have HZ:Hid (0=pad t n):=by
    unfold Hid
    rw[pad_zero t n (by omega) (by rw[<-HCH.out];omega)]
   go_wp2_with (at_builtin;refine wpList_append_b rfl _ _ 168 rfl w.heap.size 5 i0 Tryz.underlying168 hi hz0 hz1 hz2 (.slice (some ⟨g,0,none⟩) n cap) n (pad t) rfl (HO3.out.alloc _) ⟨wr.heap.size,0,none⟩ 1 0 rfl (cell_one wr _ _) (by omega) (by have:=HB3.out.size;simp;omega) ?_;intro v4 w4 hO4 hg4;have HO4:=hideA (hO4.congr (fun j _=>pad_app t n 0 HZ.out j));have HB4:=hideA (app_own HB3.out HB3.out.size HO3.out hg4);clear hO4 hg4)
   obtain⟨g',cap',hv4,hcap4⟩:=HO4.out.slice
   subst hv4
   go_roundw
   case rel=>exact⟨n+1,HO4.out,by omega,by omega,HB4.out⟩
   case measure=>simp;omega
end Go.Proofs.YtpddanmnlkcdpaaGreatDoor.Sh


namespace Go.Proofs.YtpddanmnlkcdpaaGreatDoor.Tk
open Go.RowKit Go.Shelf
attribute [local go_sem] Oper.semAt_some
theorem around_in (F:Fence) (n:Nat) (hf:F.fn 96) (hro:F.round=none) (d c:Int) (w:World) :
  CallsIn F n Tryz.prog 96 #[.int .i64 d,.int .i64 c] w fun e w'=>e=.returned (.func (.func 127) #[] #[.pointer (some ⟨w.heap.size+1,0,none⟩),.pointer (some ⟨w.heap.size,0,none⟩)])/\w'=(w.alloc (.cells #[.int .i64 d] 2)).alloc (.cells #[.int .i64 c] 2):=by
 refine callsIn_of_wp Tryz.func96 rfl hf ?_ hro
 simp only[Tryz.ntmps96,List.size_toArray,List.length_cons,List.length_nil,Nat.reduceAdd,Nat.reduceSub,Array.replicate_succ,Array.replicate_zero,List.push_toArray,List.append_toArray,List.nil_append,List.cons_append]
 gi_wp2
 go_ret
 exact⟨rfl,rfl⟩
abbrev InC (c:Nat):Type:={ x:Int // 0<=x/\x<(c:Int) }
def vals {c:Nat} (l:List (InC c)):List Int:=l.map (·.1)
theorem vals_snoc {c:Nat} (l:List (InC c)) (x:InC c):vals (l++[x])=vals l++[x.1]:=by unfold vals;rw[List.map_append];rfl
def Kp2 (A B:Nat) (W W':World):Prop:=W'.cell? ⟨A,0,none⟩=W.cell? ⟨A,0,none⟩/\W'.cell? ⟨B,0,none⟩=W.cell? ⟨B,0,none⟩
theorem Kp2.trans {A B:Nat} {X Y Z:World} (h1:Kp2 A B X Y) (h2:Kp2 A B Y Z):Kp2 A B X Z:=⟨h2.1.trans h1.1,h2.2.trans h1.2⟩
theorem around1_in (n:Nat) (l Bc Bd:Nat) (d:Int) (c:Nat) (hd:0<=d) (hd2:d<=1048576) (hc2:c<=1048576) (J Jx:List (InC c)->World->Prop)
  (hY:∀ pre x W,J pre W->pre.length<c->YieldAt Fence.wide (n-1) Tryz.prog l #[.int .i64 x.1] W fun e W' =>
   (e=.returned (.bool true)/\J (pre++[x]) W'/\Kp2 Bc Bd W W')∨(e=.returned (.bool false)/\Jx (pre++[x]) W'))
  (W:World) (hBc:W.cell? ⟨Bc,0,none⟩=some (.int .i64 c)) (hBd:W.cell? ⟨Bd,0,none⟩=some (.int .i64 d)) (h0:J [] W) :
  CallsIn Fence.wide n Tryz.prog 127 #[.func (.yield l) #[] #[],.pointer (some ⟨Bc,0,none⟩),.pointer (some ⟨Bd,0,none⟩)] W fun e W'=>(∃ v,e=.returned v) /\
   ((∃ ys,vals ys=turnL d c c/\J ys W')∨(∃ pre,True/\Jx pre W')):=by
 refine callsIn_of_wp Tryz.func127 rfl trivial ?_ rfl
 simp only[Tryz.ntmps127,List.size_toArray,List.length_cons,List.length_nil,Nat.reduceAdd,Nat.reduceSub,Array.replicate_succ,Array.replicate_zero,List.push_toArray,List.append_toArray,List.nil_append,List.cons_append]
 gi_wp2
 gi_loopw [6] (fun p wr=>∃ (k:Nat) (ys:List (InC c)),p=.int .i64 k/\k<=c/\ys.length=k/\vals ys=turnL d c k/\wr.cell? ⟨Bc,0,none⟩=some (.int .i64 c)/\wr.cell? ⟨Bd,0,none⟩=some (.int .i64 d)/\J ys wr) (fun p _=>c-(intOf p).toNat)
 case atStart=>exact⟨0,[],rfl,Nat.zero_le _,rfl,rfl,hBc,hBd,h0⟩
 case round =>
  obtain⟨k,ys,rfl,hk,hyl,hys,hc,hdd,hJ⟩:=hrel
  by_cases hlt:k<c
  ·have hx0:0<=(d+(k:Int))%(c:Int):=Int.emod_nonneg _ (by omega)
   have hx1:(d+(k:Int))%(c:Int)<(c:Int):=Int.emod_lt_of_pos _ (by omega)
   have hnx:vals (ys++[(⟨(d+(k:Int))%(c:Int),hx0,hx1⟩:InC c)])=turnL d c (k+1):=by rw[vals_snoc,turnL_snoc,hys]
   obtain⟨fn,tmps,assign,body,hy,hR⟩:=hY ys ⟨(d+(k:Int))%(c:Int),hx0,hx1⟩ wr hJ (by omega)
   have htm:(d+(k:Int)).tmod (c:Int)=(d+(k:Int))%(c:Int):=Int.tmod_eq_emod_of_nonneg (by omega)
   dsimp only at hy
   have HNX:=Kp.hideK hnx
   have HR:=Kp.hideK hR
   have HYL:=Kp.hideK hyl
   clear hnx hys hR hyl
   generalize (⟨(d+(k:Int))%(c:Int),hx0,hx1⟩:InC c)=X at HNX HR
   generalize (d+(k:Int))%(c:Int)=x at hx0 hx1 hy htm
   have hlt':(k:Int)<(c:Int):=by omega
   have hc0:¬(c:Int)=0:=by omega
   have hc0':¬c=0:=by omega
   have hc0b:((c:Int)==0)=false:=by simp;omega
   gi_wp2
   refine⟨fun hx=>(by cases hx),HR.out.mono ?_⟩
   rintro e W3 (⟨rfl,hJ3,hk3⟩|⟨rfl,hJx3⟩)
   ·have hc3:W3.cell? ⟨Bc,0,none⟩=some (.int .i64 c):=hk3.1.trans hc
    have hd3:W3.cell? ⟨Bd,0,none⟩=some (.int .i64 d):=hk3.2.trans hdd
    gi_wp2
    go_roundw
    case rel=>exact⟨k+1,ys++[X],by go_num,by omega,by rw[List.length_append,HYL.out];rfl,HNX.out,hc3,hd3,hJ3⟩
    case measure=>simp[intOf];omega
   ·gi_wp2
    refine bodyPost_ret (results_none rfl _ _ _) rfl ?_
    exact⟨⟨_,rfl⟩,.inr ⟨_,trivial,hJx3⟩⟩
  ·obtain rfl:k=c:=by omega
   have hge:¬(k:Int)<(k:Int):=by omega
   gi_wp2
   go_end0
   exact⟨⟨_,rfl⟩,.inl ⟨ys,hys,hJ⟩⟩
theorem around_stops (n Bc Bd:Nat) (d:Int) (c:Nat) (hd:0<=d) (hd2:d<=1048576) (hc2:c<=1048576) (w:World) (hBc:Bc<w.heap.size) (hBd:Bd<w.heap.size) (hc:w.cell? ⟨Bc,0,none⟩=some (.int .i64 c)) (hdd:w.cell? ⟨Bd,0,none⟩=some (.int .i64 d)) :
  SeqStopsK Fence.wide n Tryz.prog 127 #[.pointer (some ⟨Bc,0,none⟩),.pointer (some ⟨Bd,0,none⟩)] (fun x:InC c=>#[Value.int .i64 x.1]) (Kp2 Bc Bd) (fun ys=>vals ys=turnL d c c) (fun _=>True) c w:=fun l J Jx W hW _ _ hY h0 =>
 around1_in n l Bc Bd d c hd hd2 hc2 J Jx hY W ((hW.cell (p:=⟨Bc,0,none⟩) hBc).trans hc) ((hW.cell (p:=⟨Bd,0,none⟩) hBd).trans hdd) h0
end Go.Proofs.YtpddanmnlkcdpaaGreatDoor.Tk

