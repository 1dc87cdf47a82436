/- Texts put together: PeCopy, PeNine, KpTop, PeOpen, PeTo. -/
import Derived.Test.YtikiihjabbmkcaaGreatDoorBz35
import Derived.Test.YtikiihjabbmkcaaGreatDoorBz40
import Derived.Test.YtikiihjabbmkcaaGreatDoorBz20
import Derived.Deep.RegionHeld3
import Derived.Test.YtikiihjabbmkcaaGreatDoorBz31
set_option maxRecDepth 100000
set_option maxHeartbeats 8000000
namespace Go.Proofs.YtikiihjabbmkcaaGreatDoor.Pe
open Go.RowKit
open Kp
open In (Ints OwnI)
open In.Tryz (infoI2)
open Tr (wpList_append_opt)
open Ap (KeepE keepE_own)
open Ls (lowL blk_alloc)
theorem Tryz.infoOther:(Tryz.prog.info? 89).map (fun i=>(i.zero,i.size,i.bytes))=some (some (.agg #[.string ⟨#[]⟩,.slice none 0 0,.int .i64 0,.int .i64 0,.int .i64 0]),5,64):=by kernel_rfl
def Apart (m:List MO):Prop:=m.Pairwise fun x y=>∀ g,x.2.ownBlock=some g->y.2.ownBlock≠some g
def Hass (W:World) (base:Nat) (m:List MO):Prop:=∀ x∈m,OwnI W base x.2 x.1.has
theorem ownI_keep {W W':World} {base:Nat} {v:Value} {l:List Int} {e:TypeId} (h:OwnI W base v l) (k:KeepE e W W') (he:(2:TypeId)≠e):OwnI W' base v l:=by
 obtain⟨hl,h⟩:=h
 refine⟨hl,?_⟩
 rcases h with h|⟨g,cap,cur,hv,hg,hb,rest⟩
 ·exact .inl h
 ·exact .inr ⟨g,cap,cur,hv,hg,k g cur _ he hb,rest⟩
theorem Hass.keep {W W':World} {base:Nat} {m:List MO} {e:TypeId} (h:Hass W base m) (k:KeepE e W W') (he:(2:TypeId)≠e):Hass W' base m:=fun x hx=>ownI_keep (h x hx) k he
theorem Hass.below {W W':World} {base:Nat} {m:List MO} (h:Hass W base m) (hb:Below W.heap.size W W'):Hass W' base m:=fun x hx=>(h x hx).below hb
theorem keepE_set {W:World} {g:Nat} {cs:Array Value} {e:TypeId} (hg:W.heap[g]? = some (.cells cs e (0,0))) (i:Nat) (u:Value):KeepE e W (W.setCell ⟨g,i,none⟩ u):=fun k cur t ht hk=>by
 rw[heap_setCell_other W _ k u (by
  rintro rfl
  rw[hg]at hk
  simp at hk
  exact ht hk.2.symm)]
 exact hk
theorem OwnO.set_other {W:World} {base g:Nat} {v:Value} {m:List MO} (h:OwnO W base v m) (hg:v.ownBlock≠some g) (i:Nat) (u:Value):OwnO (W.setCell ⟨g,i,none⟩ u) base v m:=by
 obtain⟨hl,h⟩:=h
 refine⟨hl,?_⟩
 rcases h with h|⟨k,cap,cur,rfl,hk,hb,rest⟩
 ·exact .inl h
 ·refine .inr ⟨k,cap,cur,rfl,hk,?_,rest⟩
  rw[heap_setCell_other W _ k u (by
   rintro rfl
   exact hg rfl)]
  exact hb
theorem OwnO.block_lt {W:World} {base g:Nat} {v:Value} {m:List MO} (h:OwnO W base v m) (hg:W.heap.size<=g):v.ownBlock≠some g:=fun e=>by
 have:=(World.ownsRow.lt h g e).2
 omega
theorem ints_news {W:World} {B:Nat} {a:Option Addr} {l:List Int} (h:Ints W B a l):∀ d,a=some d->∀ j u,(l.map (Value.int .i64))[j]? = some u->W.cell? (d.add j)=some u:=by
 intro d hd j u hu
 have hj:j<l.length:=by
  have:=(List.getElem?_eq_some_iff.1 hu).1
  rwa[List.length_map]at this
 rcases h with rfl|⟨b,off,rfl,_,hc⟩
 ·cases hj
 ·cases hd
  rw[List.getElem?_map,List.getElem?_eq_getElem hj]at hu
  rw[Addr.add_lit,hc j hj]
  exact hu
theorem ints_oneP (l:List Int):∀ u∈l.map (Value.int .i64),u.oneCell'=true:=by
 intro u hu
 obtain⟨x,_,rfl⟩:=List.mem_map.1 hu
 rfl
theorem oths_take {m:List MO} {j:Nat} (h:j<m.length):oths (m.take (j+1))=oths (m.take j)++[m[j].1]:=by
 unfold oths
 rw[List.take_succ_eq_append_getElem h,List.map_append]
 rfl
def CopyOut (m:List MO) (base:Nat) (e:Ending) (w':World):Prop:=∃ v m',e=.returned v/\oths m'=oths m/\OwnO w' base v m'/\Hass w' base m'/\Apart m'
structure Cop (w wr:World) (m:List MO) (j:Nat) (u:Value) (m':List MO):Prop where
 os:oths m'=oths (m.take j)
 row:OwnO wr w.heap.size u m'
 has:Hass wr w.heap.size m'
 ap:Apart m'
 low:Below w.heap.size w wr
theorem Cop.len {w wr:World} {m m':List MO} {j:Nat} {u:Value} (h:Cop w wr m j u m') (hj:j<=m.length):m'.length=j:=by
 have:=congrArg List.length h.os
 rw[oths_length,oths_length,List.length_take]at this
 omega
theorem Cop.more {w wr w1 w3:World} {m m':List MO} {j:Nat} {u v1 v3:Value} {x:Oth} {l0:Value} (h:Cop w wr m j u m') (hx:oths (m.take (j+1))=oths (m.take j)++[x])
  (hz:w.heap.size<=wr.heap.size)
  (ho1:OwnI w1 (wr.heap.size+1) v1 x.has) (hb1:Below (wr.heap.size+1) (wr.alloc (.cells #[.string x.name,l0,.int .i64 x.asked,.int .i64 x.age,.int .i64 x.strikes] 89)) w1)
  (ho3:w3.ownsRow w.heap.size 89 5 v3 (m'.length+1) (cellsO m'++[.string x.name,v1,.int .i64 x.asked,.int .i64 x.age,.int .i64 x.strikes]))
  (hg3:((w1.setCell ⟨wr.heap.size,1,none⟩ v1).alloc (.cells #[.string x.name,v1,.int .i64 x.asked,.int .i64 x.age,.int .i64 x.strikes] 89)).grownBy w3 u.ownBlock):Cop w w3 m (j+1) v3 (m'++[(x,v1)]):=by
 have hz1:wr.heap.size+1<=w1.heap.size:=by have:=hb1.size;simpa using this
 have hA:Below wr.heap.size wr w1:=((Below.refl _ wr).alloc (Nat.le_refl _) _).trans (hb1.mono (Nat.le_succ _))
 have hblk:w1.heap[wr.heap.size]? = some (.cells #[.string x.name,l0,.int .i64 x.asked,.int .i64 x.age,.int .i64 x.strikes] 89 (0,0)):=(hb1.block _ (Nat.lt_succ_self _)).trans (heap_alloc_new wr _)
 have hr1:OwnO w1 w.heap.size u m':=h.row.below hA
 have hr2:=(hr1.set_other (h.row.block_lt (Nat.le_refl _)) 1 v1).alloc (.cells #[.string x.name,v1,.int .i64 x.asked,.int .i64 x.age,.int .i64 x.strikes] 89)
 have k1:=keepE_set hblk 1 v1
 have hbl2:Below (w1.setCell ⟨wr.heap.size,1,none⟩ v1).heap.size (w1.setCell ⟨wr.heap.size,1,none⟩ v1) ((w1.setCell ⟨wr.heap.size,1,none⟩ v1).alloc (.cells #[.string x.name,v1,.int .i64 x.asked,.int .i64 x.age,.int .i64 x.strikes] 89)):=(Below.refl _ _).alloc (Nat.le_refl _) _
 have k2:=KeepE.below (e:=89) hbl2
 have k3:=keepE_own hg3 hr2
 have he:(2:TypeId)≠89:=by decide
 have kk:∀ {v:Value} {l:List Int} {b:Nat},OwnI w1 b v l->OwnI w3 b v l:=fun q=>ownI_keep (ownI_keep (ownI_keep q k1 he) k2 he) k3 he
 refine⟨?_,OwnO.snoc ho3,?_,?_,?_⟩
 ·unfold oths at hx ⊢
  rw[List.map_append,hx,<-show List.map (·.1) m'=List.map (·.1) (m.take j) from h.os]
  rfl
 ·intro y hy
  rcases List.mem_append.1 hy with hy|hy
  ·exact kk ((h.has y hy).below hA)
  ·rw[List.mem_singleton.1 hy]
   exact kk (ho1.mono (Nat.le_trans hz (Nat.le_succ _)))
 ·unfold Apart
  rw[List.pairwise_append]
  refine⟨h.ap,List.pairwise_singleton _ _,fun y hy z hq g hg=>?_⟩
  rw[List.mem_singleton.1 hq]
  intro hg'
  have h1:=(World.ownsRow.lt (h.has y hy) g hg).2
  have h2:=(World.ownsRow.lt ho1 g hg').1
  omega
 ·refine(((h.low.trans (hA.mono hz)).setCell (p:=⟨wr.heap.size,1,none⟩) hz v1).alloc ?_ _).grown hg3 ?_ ?_
  ·simp
   omega
  ·simp
   omega
  ·intro k hk
   exact(World.ownsRow.lt h.row k hk).1
theorem copy_impl (a:Option Addr) (n cap:Nat) (m:List MO) (w:World) (h:Oths w w.heap.size a m) (hm:m.length=n) (hn:n<=1048576) (hsm:Small m) :
  Calls Tryz.prog 96 #[.slice a n cap] w fun e w'=>CopyOut m w.heap.size e w'/\Below w.heap.size w w':=by
 obtain⟨i0,hi0,hz0,hz1,hz2⟩:=info_parts infoI2
 obtain⟨j0,hj0,ho0,ho1,ho2⟩:=info_parts Tryz.infoOther
 have HS:=hideK h
 have HM:=hideK hm
 have HSM:=hideK hsm
 clear h hm hsm
 go_enter Tryz.func96,Tryz.ntmps96
 go_wp2_with fail
 go_loopw [3,8] (fun u jv wr=>∃ (j:Nat) (m':List MO),jv=.int .i64 j/\j<=n/\Cop w wr m j u m') (fun _ jv _=>n-(intOf jv).toNat)
 case atStart=>exact⟨0,[],rfl,Nat.zero_le _,rfl,OwnO.nil _ _,fun x hx=>absurd hx List.not_mem_nil,List.Pairwise.nil,Below.refl _ _⟩
 case round =>
  obtain⟨j,m',rfl,hj,hcop⟩:=hrel
  have CP:=hideK hcop
  have HLN:=hideK (hcop.len (by rw[HM.out];exact hj))
  have hzr:=hcop.low.size
  obtain⟨au,cu,hu,_,_⟩:=hcop.row.one
  rw[HLN.out]at hu
  subst hu
  clear hcop
  by_cases hlt:j<n
  ·have hlt':(j:Int)<(n:Int):=by omega
   have hjl:j<m.length:=by rw[HM.out];exact hlt
   obtain⟨b,off,rfl,hb,hc⟩:=HS.out.some (by omega)
   obtain⟨d0,d1,d2,d3,d4⟩:=(hc j hjl).below CP.out.low hb
   obtain⟨ax,cx,hxv,hcx,hnx,hix⟩:=HS.out.2 m[j] (List.getElem_mem hjl)
   have HIX:=hideK (hix.below CP.out.low)
   have HSX:=hideK (HSM.out m[j] (List.getElem_mem hjl))
   have HT:=hideK (oths_take hjl)
   rw[hxv]at d1
   have hkx:=HSX.out.1
   have HNX:Hid (ax=none->m[j].1.has.length=0/\cx=0):=fun h=>by have:=hnx h;omega
   generalize m[j].1=x at d0 d1 d2 d3 d4 HIX HT hkx hcx HNX
   obtain⟨nm,l,q,g,t⟩:=x
   dsimp only at d0 d1 d2 d3 d4 HIX hkx hcx HNX
   clear hc hxv HSX hjl hnx hix
   have XN:Hid ((wr.alloc (.cells #[.string nm,.slice ax l.length cx,.int .i64 q,.int .i64 g,.int .i64 t] 89)).heap[wr.heap.size]? = some (.cells #[.string nm,.slice ax l.length cx,.int .i64 q,.int .i64 g,.int .i64 t] 89 (0,0))):=heap_alloc_new wr _
   have BN:Hid (Below w.heap.size wr (wr.alloc (.cells #[.string nm,.slice ax l.length cx,.int .i64 q,.int .i64 g,.int .i64 t] 89))):=(Below.refl _ _).alloc hzr _
   have HMO:Hid (∀ (w1 w3:World) (v1 v3:Value),OwnI w1 (wr.heap.size+1) v1 l->Below (wr.heap.size+1) (wr.alloc (.cells #[.string nm,.slice ax l.length cx,.int .i64 q,.int .i64 g,.int .i64 t] 89)) w1->w3.ownsRow w.heap.size 89 5 v3 (j+1) (cellsO m'++[.string nm,v1,.int .i64 q,.int .i64 g,.int .i64 t])->((w1.setCell ⟨wr.heap.size,1,none⟩ v1).alloc (.cells #[.string nm,v1,.int .i64 q,.int .i64 g,.int .i64 t] 89)).grownBy w3 (Value.slice au j cu).ownBlock->Cop w w3 m (j+1) v3 (m'++[(⟨nm,l,q,g,t⟩,v1)])):=fun w1 w3 v1 v3 h1 h2 h3 h4=>CP.out.more (x:=⟨nm,l,q,g,t⟩) HT.out hzr h1 h2 (by rw[HLN.out];exact h3) h4
   have HRW:Hid (∀ (w1:World) (v1:Value),Below (wr.heap.size+1) (wr.alloc (.cells #[.string nm,.slice ax l.length cx,.int .i64 q,.int .i64 g,.int .i64 t] 89)) w1->((w1.setCell ⟨wr.heap.size,1,none⟩ v1).alloc (.cells #[.string nm,v1,.int .i64 q,.int .i64 g,.int .i64 t] 89)).ownsRow w.heap.size 89 5 (.slice au j cu) j (cellsO m')):=fun w1 v1 h2=>by
    have:=(((CP.out.row.below (((Below.refl _ wr).alloc (Nat.le_refl _) _).trans (h2.mono (Nat.le_succ _)))).set_other (CP.out.row.block_lt (Nat.le_refl _)) 1 v1).alloc (.cells #[.string nm,v1,.int .i64 q,.int .i64 g,.int .i64 t] 89))
    unfold OwnO at this
    rw[HLN.out]at this
    exact this
   go_upto_region 5 with fail
   have hsz1:(wr.alloc (.cells #[.string nm,.slice ax l.length cx,.int .i64 q,.int .i64 g,.int .i64 t] 89)).heap.size=wr.heap.size+1:=by simp
   have HSZ1:=hideK hsz1
   clear hsz1
   generalize wr.alloc (.cells #[.string nm,.slice ax l.length cx,.int .i64 q,.int .i64 g,.int .i64 t] 89)=W1 at XN BN HMO HRW HSZ1 ⊢
   generalize wr.heap.size=gx at XN HMO HRW HSZ1 hzr ⊢
   obtain⟨e0,e1,e2,e3,e4⟩:=cells5 XN.out
   clear d0 d1 d2 d3 d4
   generalize hkl:l.length=k at e1 hkx hcx HNX XN ⊢
   have HKL:=hideK hkl
   clear hkl
   go_wp2_with (at_builtin;refine wpList_append_opt _ rfl (.const (.slice none 0 0)) (.tmp 13) 27 rfl (gx+1) 2 i0 (.int .i64 0) 1 8 Tryz.underlying27 hi0 hz0 hz1 hz2 rfl (by decide) (.slice none 0 0) 0 [] rfl (World.ownsRow_nil _ _ _ _) ax k cx HNX.out (l.map (Value.int .i64)) rfl (by rw[List.length_map,HKL.out,Nat.mul_one]) (ints_news (HIX.out.below BN.out)) (ints_oneP _) (by unfold maxLen;omega) (by omega) (by rw[HSZ1.out];exact Nat.le_refl _) ?_)
   intro v1 w1 hown1 hgrow1 _
   have O1:Hid (OwnI w1 (gx+1) v1 l):=by
    unfold Hid OwnI
    rw[HKL.out]
    simpa using hown1
   have B1:Hid (Below (gx+1) W1 w1):=(Below.refl _ _).grown hgrow1 (by rw[HSZ1.out];exact Nat.le_refl _) (fun k hk=>by simp[Value.ownBlock]at hk)
   obtain⟨a1,c1,hv1,_,_⟩:=O1.out.ints
   rw[HKL.out]at hv1
   subst hv1
   have X1:Hid (w1.heap[gx]? = some (.cells #[.string nm,.slice ax k cx,.int .i64 q,.int .i64 g,.int .i64 t] 89 (0,0))):=(B1.out.block _ (Nat.lt_succ_self _)).trans XN.out
   obtain⟨f0,f1,f2,f3,f4⟩:=cells5 X1.out
   have ff:=frozen_of_row w1 gx 1 _ _ X1.out
   have X2:Hid ((w1.setCell ⟨gx,1,none⟩ (.slice a1 k c1)).heap[gx]? = some (.cells #[.string nm,.slice a1 k c1,.int .i64 q,.int .i64 g,.int .i64 t] 89 (0,0))):=by
    unfold Hid
    rw[heap_setCell_same w1 gx 1 _ _ _ X1.out]
    rfl
   have RW:=hideK (HRW.out w1 (.slice a1 k c1) B1.out)
   have MO1:=hideK (fun w3 v3=>HMO.out w1 w3 (.slice a1 k c1) v3 O1.out B1.out)
   have hz4:w.heap.size<=(w1.setCell ⟨gx,1,none⟩ (.slice a1 k c1)).heap.size:=by
    have:=B1.out.size
    simp
    have:=HSZ1.out
    omega
   clear hown1 hgrow1 e0 e1 e2 e3 e4
   go_upto_region 6 with fail
   generalize w1.setCell ⟨gx,1,none⟩ (.slice a1 k c1)=W2 at X2 RW MO1 hz4 ⊢
   clear f0 f1 f2 f3 f4 ff
   obtain⟨e0,e1,e2,e3,e4⟩:=cells5 X2.out
   go_wp2_with (at_builtin;refine wpList_append_own _ rfl (.tmp 16) (.tmp 18) 41 rfl w.heap.size 89 j0 _ 5 64 Tryz.underlying41 hj0 ho0 ho1 ho2 rfl (by decide) (.slice au j cu) j (cellsO m') rfl RW.out ⟨W2.heap.size,0,none⟩ 1 1 [.string nm,.slice a1 k c1,.int .i64 q,.int .i64 g,.int .i64 t] rfl rfl (five_new _ _ _ _ _ _ _) (five_one rfl rfl rfl rfl rfl) (by unfold maxLen;omega) (by omega) (by simp;omega) ?_)
   intro v3 w3 hown3 hgrow3 _
   have N3:=hideK (MO1.out w3 v3 hown3 hgrow3)
   clear hown3 hgrow3
   go_wp2_with fail
   go_roundw
   case rel=>exact⟨j+1,_,by go_num,by omega,N3.out⟩
   case measure=>simp[intOf];omega
  ·have HE:Hid (CopyOut m w.heap.size (.returned (.slice au j cu)) wr):=⟨_,m',rfl,by rw[CP.out.os,List.take_of_length_le (by rw[HM.out];omega)],CP.out.row,CP.out.has,CP.out.ap⟩
   go_wp2_with fail
   go_ret
   exact⟨HE.out,CP.out.low⟩
end Go.Proofs.YtikiihjabbmkcaaGreatDoor.Pe


/- Blocks of nine cells. -/
namespace Go.Proofs.YtikiihjabbmkcaaGreatDoor.Pe
open Go.RowKit
open Kp
theorem setC {W:World} {g:Nat} {cs cs':Array Value} {T:TypeId} (h:W.heap[g]? = some (.cells cs T (0,0))) (i:Nat) (a:Value) (hc:cs.setIfInBounds i a=cs'):(W.setCell ⟨g,i,none⟩ a).heap[g]? = some (.cells cs' T (0,0)):=by
 rw[heap_setCell_same W g i _ T a h,hc]
theorem cellsP6 {W:World} {g:Nat} {x0 x1 x2 x3 x4 x5:Value} {T:TypeId} (h:W.heap[g]? = some (.cells #[x0,x1,x2,x3,x4,x5] T (0,0))):W.cell? ⟨g,0,none⟩=some x0/\W.cell? ⟨g,1,none⟩=some x1/\W.cell? ⟨g,2,none⟩=some x2/\W.cell? ⟨g,3,none⟩=some x3/\W.cell? ⟨g,4,none⟩=some x4/\W.cell? ⟨g,5,none⟩=some x5 :=
 ⟨cell_of_row W g 0 _ _ _ h,cell_of_row W g 1 _ _ _ h,cell_of_row W g 2 _ _ _ h,cell_of_row W g 3 _ _ _ h,cell_of_row W g 4 _ _ _ h,cell_of_row W g 5 _ _ _ h⟩
theorem setP6 {W:World} {g:Nat} {x0 x1 x2 x3 x4 x5:Value} {T:TypeId} (h:W.heap[g]? = some (.cells #[x0,x1,x2,x3,x4,x5] T (0,0))) (a0 a1 a2 a3 a4 a5:Value) :
  ((((((W.setCell ⟨g,0,none⟩ a0).setCell ⟨g,1,none⟩ a1).setCell ⟨g,2,none⟩ a2).setCell ⟨g,3,none⟩ a3).setCell ⟨g,4,none⟩ a4).setCell ⟨g,5,none⟩ a5).heap[g]? = some (.cells #[a0,a1,a2,a3,a4,a5] T (0,0)):=by
 have h0:=setC (cs':=#[a0,x1,x2,x3,x4,x5]) h 0 a0 rfl
 have h1:=setC (cs':=#[a0,a1,x2,x3,x4,x5]) h0 1 a1 rfl
 have h2:=setC (cs':=#[a0,a1,a2,x3,x4,x5]) h1 2 a2 rfl
 have h3:=setC (cs':=#[a0,a1,a2,a3,x4,x5]) h2 3 a3 rfl
 have h4:=setC (cs':=#[a0,a1,a2,a3,a4,x5]) h3 4 a4 rfl
 have h5:=setC (cs':=#[a0,a1,a2,a3,a4,a5]) h4 5 a5 rfl
 exact h5
theorem setP6_low {w0 W:World} {g B:Nat} (h:Below B w0 W) (hg:B<=g) (a0 a1 a2 a3 a4 a5:Value):Below B w0 ((((((W.setCell ⟨g,0,none⟩ a0).setCell ⟨g,1,none⟩ a1).setCell ⟨g,2,none⟩ a2).setCell ⟨g,3,none⟩ a3).setCell ⟨g,4,none⟩ a4).setCell ⟨g,5,none⟩ a5) :=
 ((((((h.setCell (p:=⟨g,0,none⟩) hg a0).setCell (p:=⟨g,1,none⟩) hg a1).setCell (p:=⟨g,2,none⟩) hg a2).setCell (p:=⟨g,3,none⟩) hg a3).setCell (p:=⟨g,4,none⟩) hg a4).setCell (p:=⟨g,5,none⟩) hg a5)
theorem setP6_keep {W:World} {g k:Nat} {o:Obj} (h:W.heap[k]? = some o) (hk:k≠g) (a0 a1 a2 a3 a4 a5:Value):((((((W.setCell ⟨g,0,none⟩ a0).setCell ⟨g,1,none⟩ a1).setCell ⟨g,2,none⟩ a2).setCell ⟨g,3,none⟩ a3).setCell ⟨g,4,none⟩ a4).setCell ⟨g,5,none⟩ a5).heap[k]? = some o:=by
 rw[heap_setCell_other _ _ k _ (by exact hk),heap_setCell_other _ _ k _ (by exact hk),heap_setCell_other _ _ k _ (by exact hk),heap_setCell_other _ _ k _ (by exact hk),heap_setCell_other _ _ k _ (by exact hk),heap_setCell_other _ _ k _ (by exact hk)]
 exact h
theorem cellsP9 {W:World} {g:Nat} {x0 x1 x2 x3 x4 x5 x6 x7 x8:Value} {T:TypeId} (h:W.heap[g]? = some (.cells #[x0,x1,x2,x3,x4,x5,x6,x7,x8] T (0,0))):W.cell? ⟨g,0,none⟩=some x0/\W.cell? ⟨g,1,none⟩=some x1/\W.cell? ⟨g,2,none⟩=some x2/\W.cell? ⟨g,3,none⟩=some x3/\W.cell? ⟨g,4,none⟩=some x4/\W.cell? ⟨g,5,none⟩=some x5/\W.cell? ⟨g,6,none⟩=some x6/\W.cell? ⟨g,7,none⟩=some x7/\W.cell? ⟨g,8,none⟩=some x8 :=
 ⟨cell_of_row W g 0 _ _ _ h,cell_of_row W g 1 _ _ _ h,cell_of_row W g 2 _ _ _ h,cell_of_row W g 3 _ _ _ h,cell_of_row W g 4 _ _ _ h,cell_of_row W g 5 _ _ _ h,cell_of_row W g 6 _ _ _ h,cell_of_row W g 7 _ _ _ h,cell_of_row W g 8 _ _ _ h⟩
theorem setP9 {W:World} {g:Nat} {x0 x1 x2 x3 x4 x5 x6 x7 x8:Value} {T:TypeId} (h:W.heap[g]? = some (.cells #[x0,x1,x2,x3,x4,x5,x6,x7,x8] T (0,0))) (a0 a1 a2 a3 a4 a5 a6 a7 a8:Value) :
  (((((((((W.setCell ⟨g,0,none⟩ a0).setCell ⟨g,1,none⟩ a1).setCell ⟨g,2,none⟩ a2).setCell ⟨g,3,none⟩ a3).setCell ⟨g,4,none⟩ a4).setCell ⟨g,5,none⟩ a5).setCell ⟨g,6,none⟩ a6).setCell ⟨g,7,none⟩ a7).setCell ⟨g,8,none⟩ a8).heap[g]? = some (.cells #[a0,a1,a2,a3,a4,a5,a6,a7,a8] T (0,0)):=by
 have h0:=setC (cs':=#[a0,x1,x2,x3,x4,x5,x6,x7,x8]) h 0 a0 rfl
 have h1:=setC (cs':=#[a0,a1,x2,x3,x4,x5,x6,x7,x8]) h0 1 a1 rfl
 have h2:=setC (cs':=#[a0,a1,a2,x3,x4,x5,x6,x7,x8]) h1 2 a2 rfl
 have h3:=setC (cs':=#[a0,a1,a2,a3,x4,x5,x6,x7,x8]) h2 3 a3 rfl
 have h4:=setC (cs':=#[a0,a1,a2,a3,a4,x5,x6,x7,x8]) h3 4 a4 rfl
 have h5:=setC (cs':=#[a0,a1,a2,a3,a4,a5,x6,x7,x8]) h4 5 a5 rfl
 have h6:=setC (cs':=#[a0,a1,a2,a3,a4,a5,a6,x7,x8]) h5 6 a6 rfl
 have h7:=setC (cs':=#[a0,a1,a2,a3,a4,a5,a6,a7,x8]) h6 7 a7 rfl
 have h8:=setC (cs':=#[a0,a1,a2,a3,a4,a5,a6,a7,a8]) h7 8 a8 rfl
 exact h8
theorem setP9_low {w0 W:World} {g B:Nat} (h:Below B w0 W) (hg:B<=g) (a0 a1 a2 a3 a4 a5 a6 a7 a8:Value):Below B w0 (((((((((W.setCell ⟨g,0,none⟩ a0).setCell ⟨g,1,none⟩ a1).setCell ⟨g,2,none⟩ a2).setCell ⟨g,3,none⟩ a3).setCell ⟨g,4,none⟩ a4).setCell ⟨g,5,none⟩ a5).setCell ⟨g,6,none⟩ a6).setCell ⟨g,7,none⟩ a7).setCell ⟨g,8,none⟩ a8) :=
 (((((((((h.setCell (p:=⟨g,0,none⟩) hg a0).setCell (p:=⟨g,1,none⟩) hg a1).setCell (p:=⟨g,2,none⟩) hg a2).setCell (p:=⟨g,3,none⟩) hg a3).setCell (p:=⟨g,4,none⟩) hg a4).setCell (p:=⟨g,5,none⟩) hg a5).setCell (p:=⟨g,6,none⟩) hg a6).setCell (p:=⟨g,7,none⟩) hg a7).setCell (p:=⟨g,8,none⟩) hg a8)
theorem setP9_keep {W:World} {g k:Nat} {o:Obj} (h:W.heap[k]? = some o) (hk:k≠g) (a0 a1 a2 a3 a4 a5 a6 a7 a8:Value):(((((((((W.setCell ⟨g,0,none⟩ a0).setCell ⟨g,1,none⟩ a1).setCell ⟨g,2,none⟩ a2).setCell ⟨g,3,none⟩ a3).setCell ⟨g,4,none⟩ a4).setCell ⟨g,5,none⟩ a5).setCell ⟨g,6,none⟩ a6).setCell ⟨g,7,none⟩ a7).setCell ⟨g,8,none⟩ a8).heap[k]? = some o:=by
 rw[heap_setCell_other _ _ k _ (by exact hk),heap_setCell_other _ _ k _ (by exact hk),heap_setCell_other _ _ k _ (by exact hk),heap_setCell_other _ _ k _ (by exact hk),heap_setCell_other _ _ k _ (by exact hk),heap_setCell_other _ _ k _ (by exact hk),heap_setCell_other _ _ k _ (by exact hk),heap_setCell_other _ _ k _ (by exact hk),heap_setCell_other _ _ k _ (by exact hk)]
 exact h
end Go.Proofs.YtikiihjabbmkcaaGreatDoor.Pe


/- KeepRight, KeepSync, KeepRecover of the program. -/
namespace Go.Proofs.YtikiihjabbmkcaaGreatDoor.Kp
open Go.RowKit
open Ls (HH hh_keep lV lowL blkL)
open St (Strs)
def FitC (fit:Rec->Bool) (z b:Int) (r:ByteArray) (w:World):Prop :=
 ∀ (W:World) (x:MR),Below w.heap.size w W->x.1.2.1.size<=8000->x.1.2.2.length<=400->(∃ a cap,x.2=.slice a x.1.2.2.length cap/\x.1.2.2.length<=cap/\Strs W W.heap.size a x.1.2.2)->Calls Tryz.prog 85 #[.agg #[.int .i64 x.1.1,.string x.1.2.1,x.2],lV z b r] W fun e w'=>e=.returned (.bool (fit x.1))/\Below W.heap.size W w'
theorem FitC.later {fit:Rec->Bool} {z b:Int} {r:ByteArray} {w w':World} (h:FitC fit z b r w) (hb:Below w.heap.size w w'):FitC fit z b r w':=fun W x hW=>h W x (lowL hb hW)
structure Opn (fit:Rec->Bool) (z b:Int) (r s:ByteArray) (y:Int) (w W:World) (g gw:Nat) (v:Value) (m:List MR):Prop where
 cx:Cx w W [(gw,wkB v (allR fit s).2 z b r s y),(g,kB z b r s y)]
 rs:recs m=(allR fit s).1
 row:OwnR W w.heap.size v m
 ps:Paths W m
theorem Opn.call {fit:Rec->Bool} {z b:Int} {r s:ByteArray} {y:Int} {w W W':World} {g gw:Nat} {v:Value} {m:List MR} (h:Opn fit z b r s y w W g gw v m) (hb:Below W.heap.size W W'):Opn fit z b r s y w W' g gw v m :=
 ⟨h.cx.call hb,h.rs,h.row.below hb,h.ps.keeps (KeepsS.below hb)⟩
end Go.Proofs.YtikiihjabbmkcaaGreatDoor.Kp


namespace Go.Proofs.YtikiihjabbmkcaaGreatDoor.Pe
open Go.RowKit
open Kp
open Ls (HH hh_keep lV lowL blkL countN count_impl)
noncomputable def peerB (fit:Rec->Bool) (z b:Int) (r s:ByteArray) (y:Int) (l:List Oth):Bool:=keepB fit z b r s y && othsB l (countN z b r:Nat)
def peerV (z b:Int) (r s:ByteArray) (y:Int) (v:Value):Value:=.agg #[.int .i64 z,.int .i64 b,.string r,.string s,.int .i64 y,v]
def peerO (z b:Int) (r s:ByteArray) (y:Int) (v:Value):Obj:=.cells #[.int .i64 z,.int .i64 b,.string r,.string s,.int .i64 y,v] 43
def workZ:Obj:=.cells #[.slice none 0 0,.int .i64 0,.int .i64 0,.int .i64 0,.string ⟨#[]⟩,.string ⟨#[]⟩,.int .i64 0,.slice none 0 0,.slice none 0 0] 92
structure OpenP (fit:Rec->Bool) (s:ByteArray) (m:List MO) (base:Nat) (w':World) (v vo:Value) (mr:List MR) (mo:List MO):Prop where
 rs:recs mr=(allR fit s).1
 row:OwnR w' base v mr
 ps:Paths w' mr
 os:oths mo=oths m
 orow:OwnO w' base vo mo
 has:Hass w' base mo
 ap:Apart mo
def OpenPOut (fit:Rec->Bool) (z b:Int) (r s:ByteArray) (y:Int) (m:List MO) (base:Nat) (P:Bool) (e:Ending) (w':World):Prop :=
 (P=true/\∃ v vo mr mo,e=.returned (.tuple #[.agg #[v,.int .i64 ((allR fit s).2:Nat),.int .i64 z,.int .i64 b,.string r,.string s,.int .i64 y,vo,.slice none 0 0],.bool true])/\OpenP fit s m base w' v vo mr mo) ∨
 (P=false/\e=.returned (.tuple #[.agg #[.slice none 0 0,.int .i64 0,.int .i64 0,.int .i64 0,.string ⟨#[]⟩,.string ⟨#[]⟩,.int .i64 0,.slice none 0 0,.slice none 0 0],.bool false]))
theorem OwnO.others {W W':World} {base g:Nat} {v:Value} {m:List MO} {cs:Array Value} {T:TypeId} (h:OwnO W base v m) (hg:W.heap[g]? = some (.cells cs T (0,0))) (hT:T≠89) (hk:∀ k o,W.heap[k]? = some o->k≠g->W'.heap[k]? = some o):OwnO W' base v m:=by
 obtain⟨hl,h⟩:=h
 refine⟨hl,?_⟩
 rcases h with h|⟨k,cap,cur,hv,hkb,hb,rest⟩
 ·exact .inl h
 ·exact .inr ⟨k,cap,cur,hv,hkb,hk k _ hb (ty_ne hb hg (fun e=>hT e.symm)),rest⟩
theorem Hass.others {W W':World} {base g:Nat} {m:List MO} {cs:Array Value} {T:TypeId} (h:Hass W base m) (hg:W.heap[g]? = some (.cells cs T (0,0))) (hT:T≠2) (hk:∀ k o,W.heap[k]? = some o->k≠g->W'.heap[k]? = some o):Hass W' base m:=fun x hx=>by
 obtain⟨hl,h⟩:=h x hx
 refine⟨hl,?_⟩
 rcases h with h|⟨k,cap,cur,hv,hkb,hb,rest⟩
 ·exact .inl h
 ·exact .inr ⟨k,cap,cur,hv,hkb,hk k _ hb (ty_ne hb hg (fun e=>hT e.symm)),rest⟩
theorem OpenP.others {fit:Rec->Bool} {s:ByteArray} {m:List MO} {base g:Nat} {W W':World} {v vo:Value} {mr:List MR} {mo:List MO} {cs:Array Value} (h:OpenP fit s m base W v vo mr mo) (hg:W.heap[g]? = some (.cells cs 92 (0,0))) (hk:∀ k o,W.heap[k]? = some o->k≠g->W'.heap[k]? = some o):OpenP fit s m base W' v vo mr mo :=
 ⟨h.rs,h.row.others hg (by decide) hk,h.ps.keeps (KeepsS.others hg (by decide) hk),h.os,h.orow.others hg (by decide) hk,h.has.others hg (by decide) hk,h.ap⟩
theorem OpenP.call {fit:Rec->Bool} {s:ByteArray} {m:List MO} {base:Nat} {W W':World} {v vo:Value} {mr:List MR} {mo:List MO} (h:OpenP fit s m base W v vo mr mo) (hb:Below W.heap.size W W'):OpenP fit s m base W' v vo mr mo :=
 ⟨h.rs,h.row.below hb,h.ps.keeps (KeepsS.below hb),h.os,h.orow.below hb,h.has.below hb,h.ap⟩
theorem openPeer_impl (fit:Rec->Bool) (z b:Int) (r s:ByteArray) (y:Int) (a:Option Addr) (n cap:Nat) (m:List MO) (w:World) (hs:s.size<=1048576) (hh:HH w) (hf:FitC fit z b r w) (h:Oths w w.heap.size a m) (hm:m.length=n) (hn:n<=1048576) (hsm:Small m) :
  Calls Tryz.prog 52 #[peerV z b r s y (.slice a n cap)] w fun e w'=>OpenPOut fit z b r s y m w.heap.size (peerB fit z b r s y (oths m)) e w'/\Below w.heap.size w w':=by
 have C0:=hideK (((Cx.nil w).new (peerO z b r s y (.slice a n cap))).new workZ)
 simp only[World.size_alloc]at C0
 have HO:=hideK (fun W (h:Below w.heap.size w W)=>openKeep_any fit z b r s y W hs (hh_keep hh h) (hf.later h))
 have HR:=hideK (fun g v W h=>right_any g v (allR fit s).2 z b r s y W h)
 change Hid (∀ g v W h,Calls _ _ _ W fun e w'=>e=.returned (.bool (keepB fit z b r s y))/\_) at HR
 have HCO:=hideK (fun W=>count_impl z b r W)
 have HOT:=hideK (fun c W (hW:Below w.heap.size w W)=>others_impl a n cap m c W ((h.below hW).mono hW.size) hm hn hsm)
 have HCP:=hideK (fun W (hW:Below w.heap.size w W)=>copy_impl a n cap m W ((h.below hW).mono hW.size) hm hn hsm)
 have HPB:Hid (peerB fit z b r s y (oths m)=(keepB fit z b r s y && othsB (oths m) (countN z b r:Nat))):=rfl
 generalize peerB fit z b r s y (oths m)=P at HPB ⊢
 have hmx:=mixedK
 clear hh hf h hsm
 unfold OpenOut at HO
 unfold lV at HCO
 unfold kV at HO
 unfold peerV
 unfold peerO workZ at C0
 go_enter Tryz.func52,Tryz.ntmps52
 go_wp2_with fail
 generalize (w.alloc _).alloc _=W0 at C0 ⊢
 generalize hgk:w.heap.size=gk at C0 ⊢
 have HGK:=hideK hgk
 clear hgk
 refine(HO.out _ C0.out.low).mono ?_
 rintro e w1 ⟨⟨v,mr,rfl,h1,h2,h3⟩,hb⟩
 obtain⟨a0,cap0,hv⟩:=h2.one
 subst hv
 have C1:=hideK ((C0.out.call hb).new (wkB (.slice a0 mr.length cap0) (allR fit s).2 z b r s y))
 have OW:=hideK ((h2.mono C0.out.low.size).alloc (wkB (.slice a0 mr.length cap0) (allR fit s).2 z b r s y))
 have PS:=hideK (h3.keeps (KeepsS.below ((Below.refl _ _).alloc (Nat.le_refl _) (wkB (.slice a0 mr.length cap0) (allR fit s).2 z b r s y))))
 have RS:=hideK h1
 clear hb h1 h2 h3 HO C0
 unfold wkB at C1 OW PS
 go_upto_region 2 with fail
 generalize w1.alloc _=W1 at C1 OW PS ⊢
 generalize w1.heap.size=gw at C1 ⊢
 have HR1:=hideK (fun W' (hW:Below W1.heap.size W1 W')=>HR.out gw _ W' ((hW.block gw (lt_rowK (C1.out.get 0 rfl))).trans (C1.out.get 0 rfl)))
 clear HR
 obtain⟨p0,p1,p2,p3,p4,p5⟩:=cellsP6 (C1.out.get 2 rfl)
 have g0:=fun d os=>cell_regrown p0 d os
 have g1:=fun d os=>cell_regrown p1 d os
 have g2:=fun d os=>cell_regrown p2 d os
 have g5:=fun d os=>cell_regrown p5 d os
 cases hk:keepB fit z b r s y with
 |false =>
  rw[hk]at HR1
  have HP:Hid (P=false):=by unfold Hid;rw[HPB.out,hk];rfl
  clear hk HPB
  refine wp_region_quiet_below (by assumption) (by kernel_rfl) ?_
  repeat (go_big_quiet_step ((go_at_call 46;exact Calls.regrown_of (HR1.out _ (below_regrown _ _ _)))))
  refine wpQuiet_nil ?_
  intro _ hw'
  obtain⟨⟨dq,osq⟩,hw''⟩:=hw'
  subst hw''
  have C2:=hideK (C1.out.call (below_regrown W1 dq osq))
  generalize Go.Sort.grow (redrawn W1 dq) osq=w8 at C2 ⊢
  clear g0 g1 g2 g5 p0 p1 p2 p3 p4 p5 C1
  obtain⟨q0,q1,q2,q3,q4,q5,q6,q7,q8⟩:=cellsP9 (C2.out.get 1 rfl)
  have ff:=fun o=>frozen_of_row w8 (gk+1) o _ _ (C2.out.get 1 rfl)
  have s9:=cellsP9 (setP9 (C2.out.get 1 rfl) (.slice none 0 0) (.int .i64 0) (.int .i64 0) (.int .i64 0) (.string ⟨#[]⟩) (.string ⟨#[]⟩) (.int .i64 0) (.slice none 0 0) (.slice none 0 0))
  have E9:=hideK (setP9_low C2.out.low (g:=gk+1) (by have:=HGK.out;omega) (.slice none 0 0) (.int .i64 0) (.int .i64 0) (.int .i64 0) (.string ⟨#[]⟩) (.string ⟨#[]⟩) (.int .i64 0) (.slice none 0 0) (.slice none 0 0))
  go_wp2_with fail
  exact bodyPost_ret (v:=.tuple #[.agg #[.slice none 0 0,.int .i64 0,.int .i64 0,.int .i64 0,.string ⟨#[]⟩,.string ⟨#[]⟩,.int .i64 0,.slice none 0 0,.slice none 0 0],.bool false]) (by simp[results,Tryz.results52,go_sem,s9.1,s9.2.1,s9.2.2.1,s9.2.2.2.1,s9.2.2.2.2.1,s9.2.2.2.2.2.1,s9.2.2.2.2.2.2.1,s9.2.2.2.2.2.2.2.1,s9.2.2.2.2.2.2.2.2]) rfl ⟨.inr ⟨HP.out,rfl⟩,E9.out⟩
 |true =>
  rw[hk]at HR1
  generalize hco:countN z b r=cn at HCO HPB
  cases ho:othsB (oths m) (cn:Nat) with
  |false =>
   have HOT1:=hideK (fun W hW=>HOT.out (cn:Nat) W hW)
   rw[ho]at HOT1
   have HP:Hid (P=false):=by unfold Hid;rw[HPB.out,hk,ho];rfl
   clear hk HPB ho hco HOT HCP
   refine wp_region_quiet_below (by assumption) (by kernel_rfl) ?_
   repeat (go_big_quiet_step ((first|(go_at_call 46;exact Calls.regrown_of (HR1.out _ (below_regrown _ _ _)))|(go_at_call 95;exact Calls.regrown_of (HCO.out _))|(go_at_call 94;exact Calls.regrown_of (HOT1.out _ (lowL C1.out.low (below_regrown _ _ _)))))))
   refine wpQuiet_nil ?_
   intro _ hw'
   obtain⟨⟨dq,osq⟩,hw''⟩:=hw'
   subst hw''
   have C2:=hideK (C1.out.call (below_regrown W1 dq osq))
   generalize Go.Sort.grow (redrawn W1 dq) osq=w8 at C2 ⊢
   clear g0 g1 g2 g5 p0 p1 p2 p3 p4 p5 C1
   obtain⟨q0,q1,q2,q3,q4,q5,q6,q7,q8⟩:=cellsP9 (C2.out.get 1 rfl)
   have ff:=fun o=>frozen_of_row w8 (gk+1) o _ _ (C2.out.get 1 rfl)
   have s9:=cellsP9 (setP9 (C2.out.get 1 rfl) (.slice none 0 0) (.int .i64 0) (.int .i64 0) (.int .i64 0) (.string ⟨#[]⟩) (.string ⟨#[]⟩) (.int .i64 0) (.slice none 0 0) (.slice none 0 0))
   have E9:=hideK (setP9_low C2.out.low (g:=gk+1) (by have:=HGK.out;omega) (.slice none 0 0) (.int .i64 0) (.int .i64 0) (.int .i64 0) (.string ⟨#[]⟩) (.string ⟨#[]⟩) (.int .i64 0) (.slice none 0 0) (.slice none 0 0))
   go_wp2_with fail
   exact bodyPost_ret (v:=.tuple #[.agg #[.slice none 0 0,.int .i64 0,.int .i64 0,.int .i64 0,.string ⟨#[]⟩,.string ⟨#[]⟩,.int .i64 0,.slice none 0 0,.slice none 0 0],.bool false]) (by simp[results,Tryz.results52,go_sem,s9.1,s9.2.1,s9.2.2.1,s9.2.2.2.1,s9.2.2.2.2.1,s9.2.2.2.2.2.1,s9.2.2.2.2.2.2.1,s9.2.2.2.2.2.2.2.1,s9.2.2.2.2.2.2.2.2]) rfl ⟨.inr ⟨HP.out,rfl⟩,E9.out⟩
  |true =>
   have HOT1:=hideK (fun W hW=>HOT.out (cn:Nat) W hW)
   rw[ho]at HOT1
   have HP:Hid (P=true):=by unfold Hid;rw[HPB.out,hk,ho];rfl
   clear hk HPB ho hco HOT
   refine wp_region_quiet_below (by assumption) (by kernel_rfl) ?_
   repeat (go_big_quiet_step ((first|(go_at_call 46;exact Calls.regrown_of (HR1.out _ (below_regrown _ _ _)))|(go_at_call 95;exact Calls.regrown_of (HCO.out _))|(go_at_call 94;exact Calls.regrown_of (HOT1.out _ (lowL C1.out.low (below_regrown _ _ _)))))))
   refine wpQuiet_nil ?_
   intro _ hw'
   obtain⟨⟨dq,osq⟩,hw''⟩:=hw'
   subst hw''
   have C2:=hideK (C1.out.call (below_regrown W1 dq osq))
   have OW2:=hideK (OW.out.below (below_regrown W1 dq osq))
   have PS2:=hideK (PS.out.keeps (KeepsS.below (below_regrown W1 dq osq)))
   generalize Go.Sort.grow (redrawn W1 dq) osq=w8 at C2 OW2 PS2 ⊢
   clear g0 g1 g2 g5 p0 p1 p2 p3 p4 p5 C1 OW PS HR1 HOT1 HCO
   obtain⟨p0,p1,p2,p3,p4,p5⟩:=cellsP6 (C2.out.get 2 rfl)
   obtain⟨k0,k1,k2,k3,k4,k5,k6⟩:=cells7 (C2.out.get 0 rfl)
   have HFIN:Hid (∀ (w5:World) (ao:Option Addr) (mo:List MO) (co:Nat),Below w8.heap.size w8 w5->oths mo=oths m->OwnO w5 w8.heap.size (.slice ao mo.length co) mo->Hass w5 w8.heap.size mo->Apart mo->Cx w w5 [(gw,.cells #[.slice a0 mr.length cap0,.int .i64 ((allR fit s).2:Nat),.int .i64 z,.int .i64 b,.string r,.string s,.int .i64 y] 81),(gk+1,.cells #[.slice none 0 0,.int .i64 0,.int .i64 0,.int .i64 0,.string ⟨#[]⟩,.string ⟨#[]⟩,.int .i64 0,.slice none 0 0,.slice none 0 0] 92),(gk,.cells #[.int .i64 z,.int .i64 b,.string r,.string s,.int .i64 y,.slice a n cap] 43)]/\OpenP fit s m w.heap.size w5 (.slice a0 mr.length cap0) (.slice ao mo.length co) mr mo):=fun w5 ao mo co hb h1 h2 h3 h4 =>
    ⟨C2.out.call hb,RS.out,OW2.out.below hb,PS2.out.keeps (KeepsS.below hb),h1,h2.mono C2.out.low.size,fun x hx=>(h3 x hx).mono C2.out.low.size,h4⟩
   have HCP1:Hid (∀ W,Below w8.heap.size w8 W->Calls Tryz.prog 96 #[.slice a n cap] W fun e w'=>CopyOut m W.heap.size e w'/\Below W.heap.size W w'):=fun W hW=>HCP.out W (lowL C2.out.low hW)
   clear HCP
   go_wp2_with fail
   go_region_with ((go_at_call 96;refine(HCP1.out _ ((Below.refl _ w8).drew)).mono ?_;rintro e w5 ⟨⟨vo,mo,rfl,h1,h2,h3,h4⟩,hb⟩;obtain⟨ao,co,hvo,_,_⟩:=h2.one;subst hvo;obtain⟨C5,OP5⟩:=HFIN.out w5 ao mo co (lowL ((Below.refl _ w8).drew) hb) h1 h2 h3 h4;have CC5:=hideK C5;have OO5:=hideK OP5;clear hb h1 h2 h3 h4 C5 OP5;obtain⟨l0,l1,l2,l3,l4,l5,l6⟩:=cells7 (CC5.out.get 0 rfl);obtain⟨q0,q1,q2,q3,q4,q5,q6,q7,q8⟩:=cellsP9 (CC5.out.get 1 rfl);have ff:=fun o=>frozen_of_row w5 (gk+1) o _ _ (CC5.out.get 1 rfl)))
   all_goals (
    have s9:=cellsP9 (setP9 (CC5.out.get 1 rfl) (.slice a0 mr.length cap0) (.int .i64 ((allR fit s).2:Nat)) (.int .i64 z) (.int .i64 b) (.string r) (.string s) (.int .i64 y) (.slice ao mo.length co) (.slice none 0 0))
    have E9:=hideK (setP9_low CC5.out.low (g:=gk+1) (by have:=HGK.out;omega) (.slice a0 mr.length cap0) (.int .i64 ((allR fit s).2:Nat)) (.int .i64 z) (.int .i64 b) (.string r) (.string s) (.int .i64 y) (.slice ao mo.length co) (.slice none 0 0))
    have O9:=hideK (OO5.out.others (CC5.out.get 1 rfl) (fun k o hk hne=>setP9_keep (g:=gk+1) hk hne (.slice a0 mr.length cap0) (.int .i64 ((allR fit s).2:Nat)) (.int .i64 z) (.int .i64 b) (.string r) (.string s) (.int .i64 y) (.slice ao mo.length co) (.slice none 0 0)))
    go_wp2_with fail
    exact bodyPost_ret (v:=.tuple #[.agg #[.slice a0 mr.length cap0,.int .i64 ((allR fit s).2:Nat),.int .i64 z,.int .i64 b,.string r,.string s,.int .i64 y,.slice ao mo.length co,.slice none 0 0],.bool true]) (by simp[results,Tryz.results52,go_sem,s9.1,s9.2.1,s9.2.2.1,s9.2.2.2.1,s9.2.2.2.2.1,s9.2.2.2.2.2.1,s9.2.2.2.2.2.2.1,s9.2.2.2.2.2.2.2.1,s9.2.2.2.2.2.2.2.2]) rfl ⟨.inl ⟨HP.out,_,_,mr,mo,rfl,O9.out⟩,E9.out⟩)
end Go.Proofs.YtikiihjabbmkcaaGreatDoor.Pe


namespace Go.Proofs.YtikiihjabbmkcaaGreatDoor.Pe
open Go.RowKit
open Kp
open In (Ints OwnI IsI toInt_any irow irow_size)
open Ls (lowL)
theorem own_set {W:World} {base g k n cap p:Nat} {e:TypeId} {xs:List Value} (h:W.ownsRow base e k (.slice (some ⟨g,0,none⟩) n cap) n xs) (u:Value):(W.setCell ⟨g,p,none⟩ u).ownsRow base e k (.slice (some ⟨g,0,none⟩) n cap) n (xs.set p u):=by
 obtain⟨hl,h⟩:=h
 rcases h with⟨h,_⟩|⟨g',cap',cur,hv,hg,hb,h1,h2,h3,h4⟩
 ·cases h
 ·simp at hv
  obtain⟨rfl,rfl⟩:=hv
  refine⟨by rw[List.length_set];exact hl,.inr ⟨g,cap,cur.setIfInBounds p u,rfl,hg,heap_setCell_same W g p _ _ u hb,h1,h2,by rw[Array.size_setIfInBounds];exact h3,?_⟩⟩
  rw[Array.toList_setIfInBounds,<-h4,List.take_set]
theorem cellsO_set:∀ (m:List MO) (i:Nat) (x:MO),i<m.length->cellsO (m.set i x)=((((((cellsO m).set (i*5) (.string x.1.name)).set (i*5+1) x.2).set (i*5+2) (.int .i64 x.1.asked)).set (i*5+3) (.int .i64 x.1.age)).set (i*5+4) (.int .i64 x.1.strikes))
 |y :: m,0,x,_=>rfl
 |y :: m,i+1,x,h=>by
  rw[List.set_cons_succ,cellsO,cellsO,cellsO_set m i x (Nat.lt_of_succ_lt_succ h),show (i+1)*5=i*5+5 by omega,show i*5+5+1=(i*5+1)+5 by omega,show i*5+5+2=(i*5+2)+5 by omega,show i*5+5+3=(i*5+3)+5 by omega,show i*5+5+4=(i*5+4)+5 by omega]
  rfl
theorem OwnO.set {W:World} {base g n cap i:Nat} {m:List MO} (h:OwnO W base (.slice (some ⟨g,0,none⟩) n cap) m) (hn:m.length=n) (hi:i<m.length) (x:MO) :
  OwnO (((((W.setCell ⟨g,i*5,none⟩ (.string x.1.name)).setCell ⟨g,i*5+1,none⟩ x.2).setCell ⟨g,i*5+2,none⟩ (.int .i64 x.1.asked)).setCell ⟨g,i*5+3,none⟩ (.int .i64 x.1.age)).setCell ⟨g,i*5+4,none⟩ (.int .i64 x.1.strikes)) base (.slice (some ⟨g,0,none⟩) n cap) (m.set i x):=by
 unfold OwnO at h ⊢
 rw[List.length_set,cellsO_set m i x hi]
 rw[hn]at h ⊢
 exact own_set (own_set (own_set (own_set (own_set h _) _) _) _) _
theorem isI_own {W:World} {g base:Nat} {l:List Int} (h:IsI W g 2 l) (hb:base<=g) (hn:l.length<=1048576):OwnI W base (.slice (some ⟨g,0,none⟩) l.length l.length) l :=
 ⟨by simp,.inr ⟨g,l.length,irow l,rfl,hb,h,Nat.le_refl _,by unfold maxLen;omega,by rw[irow_size,Nat.mul_one],by rw[Nat.mul_one,List.take_of_length_le (by simp[irow])];simp[irow]⟩⟩
theorem toO_any (nm:ByteArray) (a:Option Addr) (n cap:Nat) (l:List Int) (q g t:Int) (w:World) (h:Ints w w.heap.size a l) (hln:l.length=n) (hn:n<=1048576) :
  Calls Tryz.prog 93 #[.agg #[.string nm,.slice a n cap,.int .i64 q,.int .i64 g,.int .i64 t]] w fun e w'=>∃ v,e=.returned (.agg #[.string nm,v,.int .i64 q,.int .i64 g,.int .i64 t])/\OwnI w' w.heap.size v l/\Below w.heap.size w w':=by
 have C0:=hideK ((((Cx.nil w).new (.cells #[.string nm,.slice a n cap,.int .i64 q,.int .i64 g,.int .i64 t] 139)).new (.cells #[.string ⟨#[]⟩,.slice none 0 0,.int .i64 0,.int .i64 0,.int .i64 0] 89)).new (.cells #[.string ⟨#[]⟩,.slice none 0 0,.int .i64 0,.int .i64 0,.int .i64 0] 89))
 simp only[World.size_alloc]at C0
 have HTI:=hideK (fun W (hW:Below w.heap.size w W)=>toInt_any a cap l W ((h.below hW).mono hW.size) (by rw[hln];exact hn))
 rw[hln]at HTI
 have HOW:Hid (∀ (W:World) g,IsI W g 2 l->w.heap.size<=g->OwnI W w.heap.size (.slice (some ⟨g,0,none⟩) n n) l):=fun W g hi hg=>by have:=isI_own hi hg (by rw[hln];exact hn);rwa[hln]at this
 clear h hln
 go_enter Tryz.func93,Tryz.ntmps93
 go_upto_region 2 with fail
 generalize ((w.alloc _).alloc _).alloc _=W0 at C0 ⊢
 obtain⟨p0,p1,p2,p3,p4⟩:=cells5 (C0.out.get 2 rfl)
 obtain⟨q0,q1,q2,q3,q4⟩:=cells5 (C0.out.get 0 rfl)
 have ff:=fun o=>frozen_of_row W0 (w.heap.size+1+1) o _ _ (C0.out.get 0 rfl)
 have D1:Hid (Cx w (W0.setCell ⟨w.heap.size+1+1,0,none⟩ (.string nm)) [(w.heap.size+1,.cells #[.string ⟨#[]⟩,.slice none 0 0,.int .i64 0,.int .i64 0,.int .i64 0] 89),(w.heap.size,.cells #[.string nm,.slice a n cap,.int .i64 q,.int .i64 g,.int .i64 t] 139)]) :=
  Cx.set (l:=[(w.heap.size+1,.cells #[.string ⟨#[]⟩,.slice none 0 0,.int .i64 0,.int .i64 0,.int .i64 0] 89),(w.heap.size,.cells #[.string nm,.slice a n cap,.int .i64 q,.int .i64 g,.int .i64 t] 139)]) ⟨C0.out.low,fun x hx=>C0.out.blk x (List.mem_cons_of_mem _ hx)⟩ (by omega) (fun x hx=>by
   rcases List.mem_cons.1 hx with rfl|hx
   ·show w.heap.size+1≠w.heap.size+1+1;omega
   ·rw[List.mem_singleton.1 hx];show w.heap.size≠w.heap.size+1+1;omega) 0 _
 have X1:=hideK (setC (cs':=#[.string nm,.slice none 0 0,.int .i64 0,.int .i64 0,.int .i64 0]) (C0.out.get 0 rfl) 0 (.string nm) rfl)
 go_upto_region 3 with fail
 generalize W0.setCell _ _=W1 at D1 X1 ⊢
 clear p0 p1 p2 p3 p4 q0 q1 q2 q3 q4 ff C0
 obtain⟨p0,p1,p2,p3,p4⟩:=cells5 (D1.out.get 1 rfl)
 go_wp2_with fail
 refine(HTI.out _ D1.out.low).mono ?_
 rintro e w2 ⟨rfl,hi2,hb⟩
 have O2:=hideK (HOW.out w2 _ hi2 D1.out.low.size)
 have zl:=lt_rowK X1.out
 have hI2:=hideK hi2
 have X2:=hideK (Ls.blkL X1.out hb)
 have D2:=hideK (D1.out.call hb)
 clear hb hi2 p0 p1 p2 p3 p4 D1 X1
 generalize hg1:W1.heap.size=g1 at O2 zl hI2 ⊢
 clear hg1
 obtain⟨p0,p1,p2,p3,p4⟩:=cells5 (D2.out.get 1 rfl)
 obtain⟨q0,q1,q2,q3,q4⟩:=cells5 X2.out
 have ff:=fun o=>frozen_of_row w2 (w.heap.size+1+1) o _ _ X2.out
 have ne1:∀ x∈[(w.heap.size+1,Obj.cells #[.string ⟨#[]⟩,.slice none 0 0,.int .i64 0,.int .i64 0,.int .i64 0] 89),(w.heap.size,.cells #[.string nm,.slice a n cap,.int .i64 q,.int .i64 g,.int .i64 t] 139)],x.1≠w.heap.size+1+1:=fun x hx=>by
   rcases List.mem_cons.1 hx with rfl|hx
   ·show w.heap.size+1≠w.heap.size+1+1;omega
   ·rw[List.mem_singleton.1 hx];show w.heap.size≠w.heap.size+1+1;omega
 have D6:=hideK ((((D2.out.set (g:=w.heap.size+1+1) (by omega) ne1 1 (.slice (some ⟨g1,0,none⟩) n n)).set (g:=w.heap.size+1+1) (by omega) ne1 2 (.int .i64 q)).set (g:=w.heap.size+1+1) (by omega) ne1 3 (.int .i64 g)).set (g:=w.heap.size+1+1) (by omega) ne1 4 (.int .i64 t))
 have X3:=setC (cs':=#[.string nm,.slice (some ⟨g1,0,none⟩) n n,.int .i64 0,.int .i64 0,.int .i64 0]) X2.out 1 (.slice (some ⟨g1,0,none⟩) n n) rfl
 have X4:=setC (cs':=#[.string nm,.slice (some ⟨g1,0,none⟩) n n,.int .i64 q,.int .i64 0,.int .i64 0]) X3 2 (.int .i64 q) rfl
 have X5:=setC (cs':=#[.string nm,.slice (some ⟨g1,0,none⟩) n n,.int .i64 q,.int .i64 g,.int .i64 0]) X4 3 (.int .i64 g) rfl
 have X6:=hideK (setC (cs':=#[.string nm,.slice (some ⟨g1,0,none⟩) n n,.int .i64 q,.int .i64 g,.int .i64 t]) X5 4 (.int .i64 t) rfl)
 have O6:Hid (OwnI ((((w2.setCell ⟨w.heap.size+1+1,1,none⟩ (.slice (some ⟨g1,0,none⟩) n n)).setCell ⟨w.heap.size+1+1,2,none⟩ (.int .i64 q)).setCell ⟨w.heap.size+1+1,3,none⟩ (.int .i64 g)).setCell ⟨w.heap.size+1+1,4,none⟩ (.int .i64 t)) w.heap.size (.slice (some ⟨g1,0,none⟩) n n) l):=by
  have he:(2:TypeId)≠89:=by decide
  exact ownI_keep (ownI_keep (ownI_keep (ownI_keep O2.out (keepE_set X2.out 1 _) he) (keepE_set X3 2 _) he) (keepE_set X4 3 _) he) (keepE_set X5 4 _) he
 clear X3 X4 X5 X2 D2 O2
 go_upto_region 7 with fail
 generalize (((w2.setCell _ _).setCell _ _).setCell _ _).setCell _ _=W6 at D6 X6 O6 ⊢
 clear p0 p1 p2 p3 p4 q0 q1 q2 q3 q4 ff
 obtain⟨q0,q1,q2,q3,q4⟩:=cells5 X6.out
 obtain⟨p0,p1,p2,p3,p4⟩:=cells5 (D6.out.get 0 rfl)
 have ff:=fun o=>frozen_of_row W6 (w.heap.size+1) o _ _ (D6.out.get 0 rfl)
 have s5:=cells5 (set5 (D6.out.get 0 rfl) (.string nm) (.slice (some ⟨g1,0,none⟩) n n) (.int .i64 q) (.int .i64 g) (.int .i64 t))
 have E5:=hideK (set5_low D6.out.low (g:=w.heap.size+1) (by omega) (.string nm) (.slice (some ⟨g1,0,none⟩) n n) (.int .i64 q) (.int .i64 g) (.int .i64 t))
 have O7:Hid (OwnI (((((W6.setCell ⟨w.heap.size+1,0,none⟩ (.string nm)).setCell ⟨w.heap.size+1,1,none⟩ (.slice (some ⟨g1,0,none⟩) n n)).setCell ⟨w.heap.size+1,2,none⟩ (.int .i64 q)).setCell ⟨w.heap.size+1,3,none⟩ (.int .i64 g)).setCell ⟨w.heap.size+1,4,none⟩ (.int .i64 t)) w.heap.size (.slice (some ⟨g1,0,none⟩) n n) l):=by
  have he:(2:TypeId)≠89:=by decide
  have Y1:=setC (cs':=#[.string nm,.slice none 0 0,.int .i64 0,.int .i64 0,.int .i64 0]) (D6.out.get 0 rfl) 0 (.string nm) rfl
  have Y2:=setC (cs':=#[.string nm,.slice (some ⟨g1,0,none⟩) n n,.int .i64 0,.int .i64 0,.int .i64 0]) Y1 1 (.slice (some ⟨g1,0,none⟩) n n) rfl
  have Y3:=setC (cs':=#[.string nm,.slice (some ⟨g1,0,none⟩) n n,.int .i64 q,.int .i64 0,.int .i64 0]) Y2 2 (.int .i64 q) rfl
  have Y4:=setC (cs':=#[.string nm,.slice (some ⟨g1,0,none⟩) n n,.int .i64 q,.int .i64 g,.int .i64 0]) Y3 3 (.int .i64 g) rfl
  exact ownI_keep (ownI_keep (ownI_keep (ownI_keep (ownI_keep O6.out (keepE_set (D6.out.get 0 rfl) 0 _) he) (keepE_set Y1 1 _) he) (keepE_set Y2 2 _) he) (keepE_set Y3 3 _) he) (keepE_set Y4 4 _) he
 go_wp2_with fail
 exact bodyPost_ret (v:=.agg #[.string nm,.slice (some ⟨g1,0,none⟩) n n,.int .i64 q,.int .i64 g,.int .i64 t]) (by simp[results,Tryz.results93,go_sem,s5.1,s5.2.1,s5.2.2.1,s5.2.2.2.1,s5.2.2.2.2]) rfl ⟨_,rfl,O7.out,E5.out⟩
end Go.Proofs.YtikiihjabbmkcaaGreatDoor.Pe

