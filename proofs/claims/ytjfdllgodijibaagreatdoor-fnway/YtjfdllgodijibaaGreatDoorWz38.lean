/- Texts put together: DwPiece. -/
import Derived.Test.YtjfdllgodijibaaGreatDoorWz35
import Derived.Test.YtjfdllgodijibaaGreatDoorWz36
import Derived.Test.YtjfdllgodijibaaGreatDoorWz37
set_option maxRecDepth 100000
set_option maxHeartbeats 8000000
namespace Go.Proofs.YtjfdllgodijibaaGreatDoor.Dr
open Go.RowKit
open St (OwnS Strs one_newS one_cellS)
open Kp (hideK lt_rowK)
open Sh (made_row strF strF_size)
open Tr (pathR pathOf_spec wpList_append_opt)
theorem Tryz.infoTW:(Tryz.prog.info? 9).map (fun i=>(i.zero,i.size,i.bytes))=some (some (.string ⟨#[]⟩),1,16):=by kernel_rfl
def PieceOut (B:Nat) (a:Option Addr) (len cap:Nat) (w:World) (e:Ending) (w':World):Prop :=
 ∃ (k:Int) (t:ByteArray) (v:Value) (q:List ByteArray),e=.returned (.tuple #[.int .i64 k,.string t,v])/\t.size<=60/\OwnS w' w.heap.size v q/\q.length<=66/\Src w' B a len cap/\Aft B w w'
theorem ownS_litD (W:World):OwnS (W.alloc (.cells #[] 9)) W.heap.size (.slice (some ⟨W.heap.size,0,none⟩) 0 0) [] :=
 ⟨rfl,.inr ⟨W.heap.size,0,#[],rfl,Nat.le_refl _,heap_alloc_new W _,Nat.le_refl _,by decide,rfl,rfl⟩⟩
theorem strs_news {W:World} {B:Nat} {a:Option Addr} {l:List ByteArray} (h:Strs W B a l):∀ d,a=some d->∀ j u,(l.map Value.string)[j]? = some u->W.cell? (d.add j)=some u:=by
 intro d hd j u hu
 have hj:j<l.length:=by
  have:=(List.getElem?_eq_some_iff.1 hu).1
  rwa[List.length_map]at this
 rcases h with rfl|⟨b,off,rfl,_,hc⟩
 ·cases hj
 ·cases hd
  rw[List.getElem?_map,List.getElem?_eq_getElem hj]at hu
  rw[Addr.add_lit,hc j hj]
  exact hu
theorem strs_oneD (l:List ByteArray):∀ u∈l.map Value.string,u.oneCell'=true:=by
 intro u hu
 obtain⟨x,_,rfl⟩:=List.mem_map.1 hu
 rfl
theorem ownS_aftD {B base:Nat} {w w':World} {v:Value} {l:List ByteArray} (h:OwnS w base v l) (ha:Aft B w w') (hB:B<base):OwnS w' base v l:=by
 obtain⟨hl,h⟩:=h
 refine⟨hl,?_⟩
 rcases h with h|⟨g,cap,cur,hv,hg,hb,rest⟩
 ·exact .inl h
 ·exact .inr ⟨g,cap,cur,hv,hg,(ha.block g (lt_rowK hb) (by omega)).trans hb,rest⟩
theorem ownS_allocD {w:World} {base:Nat} {v:Value} {l:List ByteArray} (h:OwnS w base v l) (o:Obj):OwnS (w.alloc o) base v l:=h.below ((Below.refl _ _).alloc (Nat.le_refl _) o)
theorem path_sizes:∀ (f:Nat) (l:List ByteArray) (m:Nat),l.length<=f->∀ s∈Tr.path l m,s.size<=1048576:=by
 intro f
 induction f with
 |zero =>
  intro l m hf s hs
  rw[Tr.path_one l m (by omega)]at hs
  cases hs
 |succ f ih =>
  intro l m hf s hs
  by_cases h1:l.length<=1
  ·rw[Tr.path_one l m h1]at hs
   cases hs
  ·have h2:=Tr.half_lt l.length (by omega)
   have h3:=Tr.half_pos l.length
   by_cases hi:m<Tr.half l.length
   ·rw[Tr.path_left l m (by omega) hi]at hs
    rcases List.mem_append.1 hs with h|h
    ·exact ih _ _ (by rw[List.length_take];omega) s h
    ·rw[List.mem_singleton.1 h,Tr.tree_size]
     decide
   ·rw[Tr.path_right l m (by omega) hi]at hs
    rcases List.mem_append.1 hs with h|h
    ·exact ih _ _ (by rw[List.length_drop];omega) s h
    ·rw[List.mem_singleton.1 h,Tr.tree_size]
     decide
theorem pathR_sizes (l:List ByteArray) (i:Int):∀ s∈pathR l i,s.size<=1048576:=by
 intro s hs
 unfold pathR at hs
 split at hs
 ·exact path_sizes _ l _ (Nat.le_refl _) s hs
 ·cases hs
theorem ownS_set0 {W:World} {base g n cap:Nat} {l:List ByteArray} (h:OwnS W base (.slice (some ⟨g,0,none⟩) n cap) l) (s:ByteArray):OwnS (W.setCell ⟨g,0,none⟩ (.string s)) base (.slice (some ⟨g,0,none⟩) n cap) (l.set 0 s):=by
 obtain⟨hl,h⟩:=h
 rcases h with⟨h,_⟩|⟨g',cap',cur,hv,hg,hb,h1,h2,h3,h4⟩
 ·cases h
 ·obtain⟨rfl,hln,rfl⟩:g=g'/\n=l.length/\cap=cap':=by simp at hv;exact hv
  refine⟨by rw[List.length_map,Nat.mul_one],.inr ⟨g,cap,cur.setIfInBounds 0 (.string s),by rw[List.length_set,hln],hg,heap_setCell_same W g 0 _ _ _ hb,by rw[List.length_set];exact h1,h2,by rw[Array.size_setIfInBounds];exact h3,?_⟩⟩
  rw[Array.toList_setIfInBounds,List.length_set,List.map_set,<-h4,List.take_set]
theorem piece7_any (B base0:Nat) (a:Option Addr) (len cap:Nat) (vp:Value) (p:List ByteArray) (w:World) (hl:len<=1048576) (hs:Src w B a len cap) (hp:OwnS w base0 vp p) (hB:B<base0) (hlen:p.length<=64) (hsz:∀ s∈p,s.size<=53) :
  Calls Tryz.prog 15 #[.pointer (some ⟨B,0,none⟩),vp] w fun e w'=>PieceOut B a len cap w e w':=by
 obtain⟨i0,hi0,hz0,hz1,hz2⟩:=info_parts Tryz.infoTW
 obtain⟨j0,hj0,hy0,hy1,hy2⟩:=info_parts Tryz.infoD5
 have hBl:=hs.lt
 have HS:=hideK hs
 have HP:=hideK hp
 have HSZ:=hideK hsz
 obtain⟨ap,cp,hv,hcp,hst⟩:=hp.strs
 subst hv
 generalize hpn:p.length=n at hlen hcp HP ⊢
 have HN:=hideK hpn
 clear hs hp hsz hpn
 rcases Nat.eq_zero_or_pos n with h0|h0
 ·subst h0
  go_enter Tryz.func15,Tryz.ntmps15
  go_wp2_with fail
  refine(n_any B a len cap 2 _ hl (by omega) HS.out).mono ?_
  rintro e w1 ⟨r,rfl,p0,p1,hs1,ho1⟩
  have S1:=hideK (src_alloc hs1 (.cells #[] 9))
  have A1:=hideK (aft_alloc6 ho1.aft (.cells #[] 9))
  have O1:=hideK ((ownS_litD w1).mono (ho1.aft.size))
  clear hs1 ho1
  go_wp2_with fail
  exact bodyPost_ret (v:=.tuple #[.int .i64 r,.string ⟨#[120]⟩,.slice (some ⟨w1.heap.size,0,none⟩) 0 0]) (by simp[results,Tryz.results15,go_sem]) rfl ⟨r,_,_,[],rfl,by decide,O1.out,by simp,S1.out,A1.out⟩
 ·have h0'':((n:Int)==0)=false:=by simp;omega
  obtain⟨gp,hap,hgb,hcl⟩:∃ gp,ap=some ⟨gp,0,none⟩/\base0<=gp/\St.IsO w gp 9 p:=by
   rcases HP.out.split with⟨_,h⟩|⟨g,c',hv,hg,_,ho⟩
   ·rw[h]at HN;have:=HN.out;simp at this;omega
   ·simp at hv;exact⟨g,hv.1,hg,ho⟩
  subst hap
  have HCL:=hideK hcl
  clear hst hcl
  go_enter Tryz.func15,Tryz.ntmps15
  go_wp2_with fail
  refine(n_any B a len cap (n:Int) _ hl (by omega) HS.out).mono ?_
  rintro e w1 ⟨r,rfl,p0,p1,hs1,ho1⟩
  obtain⟨k,rfl⟩:=Int.eq_ofNat_of_zero_le p0
  have hk:k<n:=by omega
  have hk':(k:Int)<(n:Int):=by omega
  have hkp:k<p.length:=by rw[HN.out];exact hk
  have X1:=hideK (HCL.out.of_heap (ho1.2.2.2.2 gp (by omega)))
  have c1:=X1.out.cell hkp
  have hts:=HSZ.out p[k] (List.getElem_mem hkp)
  generalize p[k]=t at c1 hts
  have S1:=hideK hs1
  have A1:=hideK ho1.aft
  have Z1:Hid (w1.heap.size=w.heap.size):=ho1.2.2.2.1
  have L1:=hideK (ownS_litD w1)
  have BW:Hid (Below w1.heap.size w1 (w1.alloc (.cells #[] 9))):=(Below.refl _ _).alloc (Nat.le_refl _) _
  have HPO:=hideK (pathOf_spec p n k (some ⟨gp,0,none⟩) cp (w1.alloc (.cells #[] 9)).heap.size (w1.alloc (.cells #[] 9)) HN.out hcp (by omega) ((X1.out.below BW.out X1.out.lt).strs (Nat.lt_of_lt_of_le X1.out.lt BW.out.size)) (Nat.le_refl _))
  have HQL:=hideK (Tr.pathR_length p k)
  rw[HN.out]at HQL
  have HQS:=hideK (pathR_sizes p k)
  generalize pathR p (k:Int)=q at HPO HQL HQS
  clear hs1 ho1 p0 p1 hkp
  have hzz:=BW.out.size
  go_upto_region 5 with fail
  go_wp2_with fail
  generalize w1.alloc (.cells #[] 9)=W1 at L1 BW HPO hzz ⊢
  refine HPO.out.mono ?_
  rintro e w2 ⟨v2,rfl,ho2,hb2⟩
  have L2:=hideK (L1.out.below hb2)
  have B2:=hideK (Ls.lowL BW.out hb2)
  obtain⟨a2,c2,hv2,hc2,hst2⟩:=ho2.strs
  have HST2:=hideK hst2
  subst hv2
  have hn2:a2=none->q.length=0/\c2=0:=fun h=>by
   rcases ho2.split with⟨hv,hq⟩|⟨g,c',hv,_⟩
   ·simp at hv;exact⟨by rw[hq];rfl,hv.2.2⟩
   ·simp at hv;rw[h]at hv;cases hv.1
  have HN2:=hideK hn2
  have hz2':w1.heap.size<=w2.heap.size:=B2.out.size
  clear hb2 ho2 hst2 hn2 L1 BW HPO hzz
  have hql:=HQL.out
  generalize hqq:q.length=ql at hql hc2 HN2 ⊢
  have HQQ:=hideK hqq
  clear hqq
  go_wp2_with (at_builtin;refine wpList_append_opt _ rfl (.tmp 24) (.tmp 27) 23 rfl w1.heap.size 9 i0 (.string ⟨#[]⟩) 1 16 Tryz.underlying23 hi0 hz0 hz1 hz2 rfl (by decide) (.slice (some ⟨w1.heap.size,0,none⟩) 0 0) 0 [] rfl L2.out a2 ql c2 HN2.out (q.map Value.string) rfl (by rw[List.length_map,HQQ.out,Nat.mul_one]) (strs_news HST2.out) (strs_oneD _) (by unfold maxLen;omega) (by omega) hz2' ?_)
  intro v3 w3 hown3 hgrow3 _
  have O3:Hid (OwnS w3 w.heap.size v3 q):=by
   have h3:OwnS w3 w1.heap.size v3 q:=by
    unfold OwnS
    rw[HQQ.out]
    simpa using hown3
   exact h3.mono (by have:=Z1.out;omega)
  have B3:Hid (Below w1.heap.size w1 w3):=B2.out.grown hgrow3 hz2' (fun g hg=>by simp[Value.ownBlock]at hg;omega)
  have S3:=hideK (S1.out.below B3.out)
  have A3:=hideK (A1.out.trans (aft_below B3.out))
  obtain⟨a3,c3,hv3,hc3,_⟩:=O3.out.strs
  rw[HQQ.out]at hv3 hc3
  subst hv3
  clear hown3 hgrow3 c1 L2 B2 S1 A1 HST2 HN2 X1
  go_wp2_with fail
  refine(one_any B a len cap 4 _ hl (by omega) S3.out).mono ?_
  rintro e w4 ⟨r4,rfl,hs4,ho4⟩
  have S4:=hideK hs4
  have A4:=hideK (A3.out.trans ho4.aft)
  have O4:=hideK (ownS_aftD O3.out ho4.aft hBl)
  clear hs4 ho4 S3 A3 O3
  cases r4 with
  |false =>
   go_wp2_with fail
   exact bodyPost_ret (v:=.tuple #[.int .i64 k,.string t,(.slice a3 ql c3)]) (by simp[results,Tryz.results15,go_sem]) rfl ⟨k,t,(.slice a3 ql c3),q,rfl,by omega,O4.out,by rw[HQQ.out];omega,S4.out,A4.out⟩
  |true =>
   go_wp2_with fail
   refine(n_any B a len cap 4 _ hl (by omega) S4.out).mono ?_
   rintro e w5 ⟨r5,rfl,p0,p1,hs5,ho5⟩
   obtain⟨j,rfl⟩:=Int.eq_ofNat_of_zero_le p0
   have S5:=hideK hs5
   have A5:=hideK (A4.out.trans ho5.aft)
   have O5:=hideK (ownS_aftD O4.out ho5.aft hBl)
   clear hs5 ho5 S4 A4 O4
   have hj4:j=0∨j=1∨j=2∨j=3:=by omega
   clear p0 p1
   rcases hj4 with rfl|rfl|rfl|rfl
   ·go_wp2_with fail
    refine(spoil_any B a len cap t _ hl (by omega) S5.out).mono ?_
    rintro e w6 ⟨t6,ht6,rfl,hs6,ha6⟩
    have S6:=hideK hs6
    have A6:=hideK (A5.out.trans ha6)
    have O6:=hideK (ownS_aftD O5.out ha6 hBl)
    clear hs6 ha6
    go_wp2_with fail
    exact bodyPost_ret (v:=.tuple #[.int .i64 k,.string t6,(.slice a3 ql c3)]) (by simp[results,Tryz.results15,go_sem]) rfl ⟨k,t6,(.slice a3 ql c3),q,rfl,by omega,O6.out,by rw[HQQ.out];omega,S6.out,A6.out⟩
   ·go_wp2_with fail
    refine(n_any B a len cap 3 _ hl (by omega) S5.out).mono ?_
    rintro e w6 ⟨r6,rfl,p0,p1,hs6,ho6⟩
    have S6:=hideK hs6
    have A6:=hideK (A5.out.trans ho6.aft)
    have O6:=hideK (ownS_aftD O5.out ho6.aft hBl)
    have hr6:r6<3:=by omega
    have hw1:IntKind.i64.wrap ((k:Int)+r6)=(k:Int)+r6:=by rw[IntKind.wrap_i64];omega
    have hw2:IntKind.i64.wrap ((k:Int)+r6-1)=(k:Int)+r6-1:=by rw[IntKind.wrap_i64];omega
    clear hs6 ho6
    go_wp2_with fail
    exact bodyPost_ret (v:=.tuple #[.int .i64 ((k:Int)+r6-1),.string t,(.slice a3 ql c3)]) (by simp[results,Tryz.results15,go_sem]) rfl ⟨((k:Int)+r6-1),t,(.slice a3 ql c3),q,rfl,by omega,O6.out,by rw[HQQ.out];omega,S6.out,A6.out⟩
   ·have hz5:=A5.out.size
    obtain⟨u32,hu32⟩:∃ u,u=strF 32 (fun _=>0):=⟨_,rfl⟩
    have HU:=hideK hu32
    clear hu32
    go_wp2_with (first|(at_make;refine wpList_make_full _ rfl (.const (.int .i64 32)) (.const (.int .i64 32)) 22 rfl w5.heap.size 5 j0 (.int .u8 0) 1 Tryz.underlying22 hj0 hy0 hy1 .i64 .i64 _ _ 32 rfl rfl (by simp) (by simp) (by rw[hy2];omega) (by unfold maxLen;omega) (Nat.le_refl _) ?_;intro w6 hown6 hgrow6;have hT6:=made_row hown6;have hb6:=(Below.refl w5.heap.size w5).grown hgrow6 (Nat.le_refl _) (by simp);have hcv:=hT6.str (f:=fun _=>0) (P:=Tryz.prog) (src:=22) (dst:=9) 32 32 (Nat.le_refl _) (fun j _=>by decide) Tryz.underlying22 Tryz.underlying5 Tryz.underlying9;have S6:=hideK (S5.out.below hb6);have A6:=hideK (A5.out.trans (aft_below hb6));have O6:=hideK (O5.out.below hb6);rw[<-HU.out]at hcv;have hz6:=A6.out.size;clear hown6 hgrow6 hT6 hb6)|(at_builtin;refine wpList_append_own _ rfl (.tmp 57) (.tmp 60) 23 rfl w.heap.size 9 i0 (.string ⟨#[]⟩) 1 16 Tryz.underlying23 hi0 hz0 hz1 hz2 rfl (by decide) (.slice a3 ql c3) ql (q.map Value.string) rfl (by have:=ownS_allocD O6.out (.cells #[.string u32] 9);unfold OwnS at this;rw[HQQ.out]at this;exact this) ⟨w6.heap.size,0,none⟩ 1 1 [.string u32] rfl rfl (one_newS _ _ _) (one_cellS _) (by unfold maxLen;omega) (by omega) (by simp;omega) ?_))
    intro v7 w7 hown7 hgrow7 _
    have O7:Hid (OwnS w7 w.heap.size v7 (q++[u32])):=by
     refine OwnS.snoc ?_
     rw[HQQ.out]
     exact hown7
    have B7:=hideK (St.app_one (B:=w.heap.size) (Below.refl w.heap.size w6) hz6 (Nat.le_refl _) O6.out hgrow7)
    have A7:=hideK (aft_more A6.out B7.out)
    have S7:=hideK (S6.out.stays (fun k hk=>B7.out.block k (by omega)))
    obtain⟨a7,c7,hv7,_,_⟩:=O7.out.strs
    have hl7:(q++[u32]).length=ql+1:=by rw[List.length_append,HQQ.out];rfl
    rw[hl7]at hv7
    subst hv7
    have HL7:=hideK hl7
    clear hown7 hgrow7 hl7
    go_wp2_with fail
    exact bodyPost_ret (v:=.tuple #[.int .i64 k,.string t,(.slice a7 (ql+1) c7)]) (by simp[results,Tryz.results15,go_sem]) rfl ⟨k,t,(.slice a7 (ql+1) c7),(q++[u32]),rfl,by omega,O7.out,by rw[HL7.out];omega,S7.out,A7.out⟩
   ·by_cases hq0:0<ql
    ·have hq0':(0:Int)<(ql:Int):=by omega
     obtain⟨g3,hg3,hbb3,hi3⟩:∃ g3,a3=some ⟨g3,0,none⟩/\w.heap.size<=g3/\St.IsO w5 g3 9 q:=by
      rcases O5.out.split with⟨_,h⟩|⟨g,c',hv,hg,_,ho⟩
      ·rw[h]at HQQ;have:=HQQ.out;simp at this;omega
      ·simp at hv;exact⟨g,hv.1,hg,ho⟩
     subst hg3
     have c0:=hi3.cell (j:=0) (by rw[HQQ.out];exact hq0)
     obtain⟨s0,hs0,hsz0⟩:∃ s0:ByteArray,w5.cell? ⟨g3,0,none⟩=some (.string s0)/\s0.size<=1048576:=⟨_,c0,HQS.out _ (List.getElem_mem _)⟩
     clear c0 hi3
     go_wp2_with fail
     refine(spoil_any B a len cap s0 _ hl hsz0 S5.out).mono ?_
     rintro e w6 ⟨t6,ht6,rfl,hs6,ha6⟩
     have S6:=hideK (src_set' hs6 (g:=g3) (i:=0) (by omega) (.string t6))
     have A6:=hideK (aft_set (A5.out.trans ha6) hbb3 (i:=0) (.string t6))
     have O6:=hideK (ownS_aftD O5.out ha6 hBl)
     have O7:=hideK (ownS_set0 O6.out t6)
     obtain⟨c6,f6⟩:(∃ x,w6.cell? ⟨g3,0,none⟩=some (.string x))/\w6.frozen? ⟨g3,0,none⟩=false:=by
      rcases O6.out.split with⟨_,h⟩|⟨g,c',hv,hg,_,ho⟩
      ·rw[h]at HQQ;have:=HQQ.out;simp at this;omega
      ·obtain rfl:g3=g:=by simp at hv;exact hv.1
       exact⟨⟨_,ho.cell (j:=0) (by rw[HQQ.out];exact hq0)⟩,ho.frozen 0⟩
     obtain⟨x6,c6⟩:=c6
     clear hs6 ha6 hs0
     go_wp2_with fail
     exact bodyPost_ret (v:=.tuple #[.int .i64 k,.string t,(.slice (some ⟨g3,0,none⟩) ql c3)]) (by simp[results,Tryz.results15,go_sem]) rfl ⟨k,t,(.slice (some ⟨g3,0,none⟩) ql c3),(q.set 0 t6),rfl,by omega,O7.out,by rw[List.length_set,HQQ.out];omega,S6.out,A6.out⟩
    ·have hq0':¬(0:Int)<(ql:Int):=by omega
     go_wp2_with fail
     exact bodyPost_ret (v:=.tuple #[.int .i64 k,.string t,(.slice a3 ql c3)]) (by simp[results,Tryz.results15,go_sem]) rfl ⟨k,t,(.slice a3 ql c3),q,rfl,by omega,O5.out,by rw[HQQ.out];omega,S5.out,A5.out⟩
end Go.Proofs.YtjfdllgodijibaaGreatDoor.Dr

