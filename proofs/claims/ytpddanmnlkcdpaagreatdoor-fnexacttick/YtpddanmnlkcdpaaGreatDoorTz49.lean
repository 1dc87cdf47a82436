/- Texts put together: TkTick. -/
import Derived.Test.YtpddanmnlkcdpaaGreatDoorTz48
import Derived.Test.YtpddanmnlkcdpaaGreatDoorTz39
set_option maxRecDepth 100000
set_option maxHeartbeats 8000000
namespace Go.Proofs.YtpddanmnlkcdpaaGreatDoor.Tk
open Go.RowKit Go.Shelf
open Kp
open Pe
open Pl
open In (Ints OwnI)
open Ls (lowL blk_alloc countN)
attribute [local go_sem] Oper.semAt_some
def allS (rs:List Int) (d:Int) (c:Nat) (xs:List Int) (st:List Oth × List Snt):List Oth × List Snt:=xs.foldl (fun st i=>askS rs d c st i.toNat) st
theorem allS_snoc (rs:List Int) (d:Int) (c:Nat) (xs:List Int) (x:Int) (st:List Oth × List Snt):allS rs d c (xs++[x]) st=askS rs d c (allS rs d c xs st) x.toNat:=by
 unfold allS
 rw[List.foldl_append]
 rfl
theorem allS_len (rs:List Int) (d:Int) (c:Nat):∀ (xs:List Int) (st:List Oth × List Snt),(allS rs d c xs st).1.length=st.1.length/\(allS rs d c xs st).2.length<=st.2.length+xs.length
 |[],_=>⟨rfl,Nat.le_refl _⟩
 |x :: xs,st=>by
  have h1:=allS_len rs d c xs (askS rs d c st x.toNat)
  have h2:=askS_len rs d c st x.toNat
  have e:allS rs d c (x :: xs) st=allS rs d c xs (askS rs d c st x.toNat):=rfl
  rw[e,List.length_cons]
  omega
theorem turnL_len (d:Int) (c n:Nat):(turnL d c n).length=n:=by unfold turnL;rw[List.length_map,List.length_range]
def tickT (rs:List Int) (d:Int) (c:Nat) (l:List Oth):List Snt:=if 0<c/\d%(c:Int)∈rs then tellL l (d%(c:Int)) else []
def tickA (rs:List Int) (d:Int) (c:Nat) (l:List Oth) (q:List Snt):List Oth × List Snt:=allS rs d c (turnL d l.length l.length) (l.map oldO,q)
def tickS (rs:List Int) (d:Int) (c:Nat) (l:List Oth) (q:List Snt):List Oth × List Snt:=((tickA rs d c l q).1,(tickA rs d c l q).2++tickT rs d c (tickA rs d c l q).1)
theorem WS.ck {w W W':World} {gw:Nat} {u:Value} {e z b:Int} {r s:ByteArray} {y:Int} {vo vs:Value} {mo:List MO} {ms:List ML} {mr:List MR} (h:WS w W gw u e z b r s y vo vs mo ms mr) (hl:Below w.heap.size w W') (hk:∀ (g:Nat) (cs:Array Value) (T:TypeId),W.heap[g]? = some (.cells cs T (0,0))->W'.heap[g]? = some (.cells cs T (0,0))):WS w W' gw u e z b r s y vo vs mo ms mr :=
 ⟨hl,h.gw0,hk _ _ _ (by have:=h.gwb;unfold wpB at this;exact this),own_ck h.orow hk,fun x hx=>own_ck (h.has x hx) hk,h.ap,own_ck h.srow hk,h.nl,own_ck h.rrow hk,h.rsl⟩
def tblks (gk g1 gw:Nat) (n:Nat) (d:Int):List (Nat × Obj):=[(g1+1,.cells #[.int .i64 n] 2),(g1,.cells #[.int .i64 d] 2),(gk+1,.cells #[.int .i64 d] 2),(gk,.cells #[.pointer (some ⟨gw,0,none⟩)] 122)]
def TickI (w W0:World) (gw:Nat) (u:Value) (e z b:Int) (r s:ByteArray) (y:Int) (vo:Value) (mo:List MO) (mr:List MR) (bl:List (Nat × Obj)) (st:List Oth × List Snt) (V:World):Prop :=
 (∃ vs' mo' ms',WS w V gw u e z b r s y vo vs' mo' ms' mr/\(Pe.oths mo',snts ms')=st/\(∀ x∈mo',∃ y∈mo,x.1.has=y.1.has))/\Cx w V bl/\KeepY W0 V
theorem ck_of {X Y:World} {row:Option Nat} {B:Nat} (hg:X.grownBy Y row) (hr:∀ r,row=some r->B<=r/\∃ o:Obj,X.heap[r]? = some o/\o.isCells=false):∀ (g:Nat) (cs:Array Value) (T:TypeId),X.heap[g]? = some (.cells cs T (0,0))->Y.heap[g]? = some (.cells cs T (0,0)):=fun g cs T hk =>
 (hg.block g (lt_rowK hk) (fun e=>by
  obtain⟨o,ho,hn⟩:=(hr g e.symm).2
  rw[hk]at ho
  cases ho
  cases hn)).trans hk
theorem KeepY.grown {W0 X Y:World} {row:Option Nat} {B:Nat} (h:KeepY W0 X) (hB:W0.heap.size<=B) (hg:X.grownBy Y row) (hr:∀ r,row=some r->B<=r):KeepY W0 Y :=
 ⟨Nat.le_trans h.1 hg.size,fun k o hk ho=>(hg.block k (lt_rowK (h.2 k o hk ho)) (fun e=>by have:=hr k e.symm;have:=lt_rowK hk;omega)).trans (h.2 k o hk ho)⟩
theorem tickI_own {β:Type} {B:Nat} {w W0:World} {gw:Nat} {u:Value} {e z b:Int} {r s:ByteArray} {y:Int} {vo:Value} {mo:List MO} {mr:List MR} {bl:List (Nat × Obj)} (f:β->List Oth × List Snt) (hB:w.heap.size<=B) (hB0:W0.heap.size<=B) (hc:∀ x∈bl,x.2.isCells=true):OwnFrom B (fun t V=>TickI w W0 gw u e z b r s y vo mo mr bl (f t) V):=fun t X Y row hs hg hr=>by
 obtain⟨⟨vs',mo',ms',h1,h2,h3⟩,h4,h5⟩:=hs
 have hcx:=cx_own (β:=Unit) (fun _=>bl) hB (fun _ x hx=>hc x hx) () X Y row h4 hg hr
 exact⟨⟨vs',mo',ms',h1.ck hcx.low (ck_of hg hr),h2,h3⟩,hcx,h5.grown hB0 hg (fun r e=>(hr r e).1)⟩
theorem tblks_cells (gk g1 gw n:Nat) (d:Int):∀ x∈tblks gk g1 gw n d,x.2.isCells=true:=fun x hx=>by
 unfold tblks at hx
 simp only[List.mem_cons,List.not_mem_nil,or_false]at hx
 rcases hx with rfl|rfl|rfl|rfl<;>rfl
theorem tblks_keep {w V V':World} {gk g1 gw n:Nat} {d:Int} (h:Cx w V (tblks gk g1 gw n d)) (hk:KeepY V V') (hl:Below w.heap.size w V'):Cx w V' (tblks gk g1 gw n d):=⟨hl,fun x hx=>by
 have hb:=h.blk x hx
 unfold tblks at hx
 simp only[List.mem_cons,List.not_mem_nil,or_false]at hx
 refine hk.2 _ _ hb fun cs T e=>?_
 rcases hx with rfl|rfl|rfl|rfl<;>cases e<;>exact⟨by decide,by decide,by decide⟩⟩
theorem tick_any (w W:World) (gw:Nat) (u:Value) (e z b:Int) (r s:ByteArray) (y:Int) (ao:Option Addr) (n co:Nat) (vs:Value) (mo:List MO) (ms:List ML) (mr:List MR) (hw:WS w W gw u e z b r s y (.slice ao n co) vs mo ms mr) (h4:n<=4) (hmr:mr.length<=1048576) (hsm:∀ y∈mo,y.1.has.length<=1048576) (hcn:countN z b r<=1048576)
  (d:Int) (hd:0<=d) (hd2:d<=1048576) (hms:ms.length<=1000) (hage:∀ o∈Pe.oths mo,0<=o.age/\o.age<=3) :
  Calls Tryz.prog 55 #[.pointer (some ⟨gw,0,none⟩),.int .i64 d] W fun q w' =>
   q=.returned (.tuple #[])/\∃ vs' mo' ms',WS w w' gw u e z b r s y (.slice ao n co) vs' mo' ms' mr/\(Pe.oths mo',snts ms')=tickS (idxs mr) d (countN z b r) (Pe.oths mo) (snts ms)/\KeepY W w':=by
 have HLN:Hid ((Pe.oths mo).length=n):=by unfold Hid;rw[oths_length,hw.oths.2]
 have C0:=hideK (((⟨hw.low,fun _ h=>absurd h List.not_mem_nil⟩:Cx w W []).new (.cells #[.pointer (some ⟨gw,0,none⟩)] 122)).new (.cells #[.int .i64 d] 2))
 simp only[World.size_alloc]at C0
 have hwb:Below W.heap.size W ((W.alloc (.cells #[.pointer (some ⟨gw,0,none⟩)] 122)).alloc (.cells #[.int .i64 d] 2)):=((Below.refl _ _).alloc (Nat.le_refl _) _).alloc (by simp) _
 have HW0:=hideK (hw.call hwb)
 have HGO:=hideK (growOld_any w _ gw u e z b r s y ao n co vs mo ms mr (hw.call hwb) (by omega) hage)
 have K0:=hideK (KeepY.below hwb)
 have HWZ:=hideK hwb.size
 clear hw hwb hage
 refine(callsIn_wide (n:=3)).1 ?_
 refine callsIn_of_wp_marks Tryz.func55 rfl trivial ?_ rfl
 simp only[Tryz.ntmps55,List.size_toArray,List.length_cons,List.length_nil,Nat.reduceAdd,Nat.reduceSub,Array.replicate_succ,Array.replicate_zero,List.push_toArray,List.append_toArray,List.nil_append,List.cons_append]
 gi_wp2
 generalize (W.alloc _).alloc _=W0 at C0 HW0 HGO K0 HWZ ⊢
 generalize hgk:W.heap.size=gk at C0 HWZ ⊢
 have HGK:=hideK hgk
 clear hgk
 refine⟨trivial,(callsIn_wide.2 HGO.out).mono ?_⟩
 rintro o1 w1 ⟨rfl,mo1,hws1,hos1,hky1⟩
 have HMO1:=hideK hos1
 have hC1:Cx w w1 [(gk+1,.cells #[.int .i64 d] 2),(gk,.cells #[.pointer (some ⟨gw,0,none⟩)] 122)]:=⟨hws1.low,fun x hx=>by
  have hb:=C0.out.blk x hx
  simp only[List.mem_cons,List.not_mem_nil,or_false]at hx
  refine hky1.2 _ _ hb fun cs T e=>?_
  rcases hx with rfl|rfl<;>cases e<;>exact⟨by decide,by decide,by decide⟩⟩
 have W1:=hideK hws1
 have K1:=hideK (K0.out.trans hky1)
 have K2:Hid (KeepY W (((w1.alloc (.cells #[.int .i64 d] 2)).alloc (.cells #[.int .i64 n] 2)).drew)):=K1.out.trans (KeepY.below ((((Below.refl _ _).alloc (Nat.le_refl _) _).alloc (by simp) _).drew))
 have hwb:Below w1.drew.heap.size w1.drew ((w1.drew.alloc (.cells #[.int .i64 d] 2)).alloc (.cells #[.int .i64 n] 2)):=((Below.refl _ _).alloc (Nat.le_refl _) _).alloc (by simp) _
 have hws1d:WS w w1.drew gw u e z b r s y (.slice ao n co) vs mo1 ms mr:=hws1.call ((Below.refl _ _).drew)
 have W2:Hid (WS w (((w1.alloc (.cells #[.int .i64 d] 2)).alloc (.cells #[.int .i64 n] 2)).drew) gw u e z b r s y (.slice ao n co) vs mo1 ms mr):=hws1d.call hwb
 have C2:Hid (Cx w (((w1.alloc (.cells #[.int .i64 d] 2)).alloc (.cells #[.int .i64 n] 2)).drew) (tblks gk w1.heap.size gw n d)):=by
  have:=(hC1.new (.cells #[.int .i64 d] 2)).new (.cells #[.int .i64 n] 2)
  rw[World.size_alloc]at this
  exact this.drew
 have c1:w1.drew.cell? ⟨gk+1,0,none⟩=some (.int .i64 d):=cell_of_row w1.drew (gk+1) 0 _ _ _ (hC1.get 0 rfl)
 have c0:w1.drew.cell? ⟨gk,0,none⟩=some (.pointer (some ⟨gw,0,none⟩)):=cell_of_row w1.drew gk 0 _ _ _ (hC1.get 1 rfl)
 have c7:w1.drew.cell? ⟨gw,7,none⟩=some (.slice ao n co):=cell_of_row w1.drew gw 7 _ _ _ (by have:=hws1.gwb;unfold wpB at this;exact this)
 have hmx:=mixedK
 clear hws1 hos1 hky1 hwb hws1d HGO C0 hC1
 gi_wp2
 refine So.wpIn_region_still_tail 6 hmx (by kernel_rfl) ?_
 simp only[List.take,List.drop]
 repeat still_step
 refine wpStill_nil ?_
 gi_wp2
 refine⟨trivial,(around_in Fence.wide _ trivial rfl _ _ _).mono ?_⟩
 rintro o2 w2 ⟨rfl,rfl⟩
 gi_wp2
 generalize ((w1.alloc _).alloc _).drew=V0 at C2 W2 K2 ⊢
 generalize w1.heap.size=g1 at C2 ⊢
 clear c0 c1 c7 W1
 have hcc:=C2.out
 have HHA1:Hid (∀ x∈mo1,∃ y∈mo,x.1.has=y.1.has):=fun x hx=>by
  have h1:x.1∈Pe.oths mo1:=List.mem_map_of_mem hx
  rw[HMO1.out]at h1
  obtain⟨o,ho,he⟩:=List.mem_map.1 h1
  obtain⟨y,hy,rfl⟩:=List.mem_map.1 ho
  refine⟨y,hy,?_⟩
  rw[<-he]
  unfold oldO
  split
  ·rfl
  ·split<;>rfl
 have hI0:TickI w W gw u e z b r s y (.slice ao n co) mo mr (tblks gk g1 gw n d) (allS (idxs mr) d (countN z b r) (vals ([]:List (InC n))) ((Pe.oths mo).map oldO,snts ms)) V0:=⟨⟨vs,mo1,ms,W2.out,by rw[HMO1.out];rfl,HHA1.out⟩,hcc,K2.out⟩
 clear C2 W2
 refine wpIn_rangeFunc_ownG rfl (by decide) (gf:=127) (lb:=#[.pointer (some ⟨g1+1,0,none⟩),.pointer (some ⟨g1,0,none⟩)]) rfl trivial (enters_of Tryz.func127 (by kernel_rfl) rfl)
  (around_stops 2 (g1+1) g1 d n hd hd2 (by omega) V0 (lt_rowK (hcc.get 0 rfl)) (lt_rowK (hcc.get 1 rfl)) (cell_of_row _ _ 0 _ _ _ (hcc.get 0 rfl)) (cell_of_row _ _ 0 _ _ _ (hcc.get 1 rfl))) (fun h1 h2=>h1.trans h2)
  (fun V l o o' hl h1 h2 h3=>⟨(belowK_b (w:=V0) (n₀:=V0.heap.size) (Nat.le_refl _) V l o o' hl h1 h2 h3).cell (p:=⟨g1+1,0,none⟩) (lt_rowK (hcc.get 0 rfl)),(belowK_b (w:=V0) (n₀:=V0.heap.size) (Nat.le_refl _) V l o o' hl h1 h2 h3).cell (p:=⟨g1,0,none⟩) (lt_rowK (hcc.get 1 rfl))⟩) (Below.refl _ _) (fun _=>rfl)
  (fun pre V=>TickI w W gw u e z b r s y (.slice ao n co) mo mr (tblks gk g1 gw n d) (allS (idxs mr) d (countN z b r) (vals pre) ((Pe.oths mo).map oldO,snts ms)) V)
  (fun _ _ _=>False)
  (tickI_own (fun pre=>allS (idxs mr) d (countN z b r) (vals pre) ((Pe.oths mo).map oldO,snts ms)) hcc.low.size K2.out.1 (tblks_cells _ _ _ _ _))
  (fun _ _ _ _ _ hs _ _=>hs)
  hI0
  (fun x=>{ tmps:=#[.pointer (some ⟨gw,0,none⟩),.int .i64 d,.pointer (some ⟨gk,0,none⟩),.pointer (some ⟨gk+1,0,none⟩),.int .i64 x.1,undef,.pointer (some ⟨gw,0,none⟩),.tuple #[],.int .i64 d,.pointer (some ⟨gw,0,none⟩),.pointer (some ⟨gw,0,none⟩),.pointer (some ⟨gw,7,none⟩),.slice ao n co,.int .i64 n,.func (.func 127) #[] #[.pointer (some ⟨g1+1,0,none⟩),.pointer (some ⟨g1,0,none⟩)],.int .i64 x.1,undef,undef,undef,undef,undef,undef,undef,undef,undef,undef,undef,undef,undef,undef,undef,undef,undef,undef,undef,undef,undef,undef,undef,undef,undef,undef,undef,undef],defers:=[] })
  ?assign ?body ?done ?stop
 case assign =>
  intro l x V K hK
  gi_wp2
  exact hK
 case body =>
  rintro l pre ⟨xi,hx0,hx1⟩ V ⟨⟨vs2,mo2,ms2,hws,hst,hha⟩,hcx,hky⟩ hlen
  have HKV:=hideK hky
  clear hky
  obtain⟨j,rfl⟩:=Int.eq_ofNat_of_zero_le hx0
  have hjn:j<n:=by omega
  have HML:Hid (mo2.length=n):=hws.oths.2
  obtain⟨go,cp,hv,_,_,_,_⟩:=hws.orow.cells (by rw[HML.out];omega)
  obtain⟨rfl,rfl⟩:ao=some ⟨go,0,none⟩/\co=cp:=by simp at hv;exact⟨hv.1,hv.2.2⟩
  have HSN:Hid (ms2.length<=1000000):=by
   have h1:=(allS_len (idxs mr) d (countN z b r) (vals pre) ((Pe.oths mo).map oldO,snts ms)).2
   rw[<-hst]at h1
   dsimp only at h1
   rw[snts_length,snts_length]at h1
   unfold Hid
   have:(vals pre).length=pre.length:=by unfold vals;rw[List.length_map]
   omega
  have hdr:Below V.heap.size V V.drew:=(Below.refl _ _).drew
  have AK:=hideK (ask_any w V.drew gw u e z b r s y go n co vs2 mo2 ms2 mr (hws.call hdr) h4 hmr (fun x hx=>by
   obtain⟨y,hy,he⟩:=hha x hx
   rw[he]
   exact hsm y hy) hcn d hd hd2 j hjn HSN.out)
  have CX:=hideK hcx
  have HST:=hideK hst
  have HHA:=hideK hha
  have c1:V.drew.cell? ⟨gk+1,0,none⟩=some (.int .i64 d):=cell_of_row V.drew (gk+1) 0 _ _ _ (hcx.get 2 rfl)
  have c0:V.drew.cell? ⟨gk,0,none⟩=some (.pointer (some ⟨gw,0,none⟩)):=cell_of_row V.drew gk 0 _ _ _ (hcx.get 3 rfl)
  have c7:V.drew.cell? ⟨gw,7,none⟩=some (.slice (some ⟨go,0,none⟩) n co):=cell_of_row V.drew gw 7 _ _ _ (by have:=hws.gwb;unfold wpB at this;exact this)
  have hjI:(j:Int)<(n:Int):=by omega
  have hmx:=mixedK
  dsimp only
  clear hws hst hha hcx hv hlen HSN
  gi_wp2
  refine wpR_region_still_tail 8 hmx (noDefer_of (by kernel_rfl)) (by kernel_rfl) ?_
  simp only[List.take,List.drop]
  repeat still_step
  refine wpStill_nil ?_
  gi_wp2
  refine⟨trivial,(CallsIn.inRound l (callsIn_wide.2 AK.out)).mono ?_⟩
  rintro o2 V2 ⟨rfl,vs3,mo3,ms3,hws3,hst3,hha3,hky3⟩
  have HN:Hid (KeepsFrom V0.heap.size V V2/\Kp2 (g1+1) g1 V V2/\TickI w W gw u e z b r s y (.slice (some ⟨go,0,none⟩) n co) mo mr (tblks gk g1 gw n d) (allS (idxs mr) d (countN z b r) (vals (pre++[(⟨(j:Int),hx0,hx1⟩:InC n)])) ((Pe.oths mo).map oldO,snts ms)) V2):=by
   have hky:KeepY V V2:=hky3
   have hcx:=tblks_keep CX.out hky hws3.low
   refine⟨hky.from _,kp2_of (CX.out.get 0 rfl) (CX.out.get 1 rfl) (hcx.get 0 rfl) (hcx.get 1 rfl),⟨vs3,mo3,ms3,hws3,?_,?_⟩,hcx,HKV.out.trans hky⟩
   ·rw[vals_snoc,allS_snoc,<-HST.out,hst3]
    rfl
   ·intro x hx
    obtain⟨y,hy,he⟩:=hha3 x hx
    obtain⟨y',hy',he'⟩:=HHA.out y hy
    exact⟨y',hy',he.trans he'⟩
  clear hws3 hst3 hha3 hky3 AK
  gi_wp2
  exact HN.out
 case done =>
  rintro D ys V hD hys ⟨⟨vs2,mo2,ms2,hws,hst,hha⟩,hcx,hky⟩ hK
  have KV:=hideK hky
  clear hky
  have HST:Hid ((Pe.oths mo2,snts ms2)=tickA (idxs mr) d (countN z b r) (Pe.oths mo) (snts ms)):=by
   unfold Hid tickA
   rw[hst,hys,HLN.out]
  have HSN:Hid (ms2.length<=1010):=by
   have h1:=(allS_len (idxs mr) d (countN z b r) (vals ys) ((Pe.oths mo).map oldO,snts ms)).2
   rw[<-hst]at h1
   dsimp only at h1
   rw[snts_length,snts_length,hys,turnL_len]at h1
   unfold Hid
   omega
  have c0:=cell_of_row V gk 0 _ _ _ (hcx.get 3 rfl)
  have HCN:=hideK (countW_any gw u e z b r s y (.slice ao n co) vs2 V hws.gwb)
  have WS0:=hideK hws
  have CX0:=hideK hcx
  have HK:=hideK hK
  clear hst hys hws hcx hK hha
  gi_wp2
  refine⟨trivial,(callsIn_wide.2 HCN.out).mono ?_⟩
  rintro o1 V1 ⟨rfl,hb⟩
  have WS1:=hideK (WS0.out.call hb)
  have CX1:=hideK (CX0.out.call hb)
  have HK1:Hid (V1.heap[D]? = some (.deferred (some []))):=(hb.block D (lt_rowK HK.out)).trans HK.out
  have KV1:=hideK (KV.out.trans (KeepY.below hb))
  clear hb HCN WS0 CX0 HK c0
  have HS1:Hid (0<countN z b r/\d%(countN z b r:Int)∈idxs mr->tickS (idxs mr) d (countN z b r) (Pe.oths mo) (snts ms)=(Pe.oths mo2,snts ms2++tellL (Pe.oths mo2) (d%(countN z b r:Int)))):=fun h=>by
   unfold tickS
   rw[<-HST.out]
   unfold tickT
   rw[if_pos h]
  have HS0:Hid (¬(0<countN z b r/\d%(countN z b r:Int)∈idxs mr)->tickS (idxs mr) d (countN z b r) (Pe.oths mo) (snts ms)=(Pe.oths mo2,snts ms2)):=fun h=>by
   unfold tickS
   rw[<-HST.out]
   unfold tickT
   rw[if_neg h,List.append_nil]
  have HFIN:Hid (∀ V' vs' ms',V'.heap[D]? = some (.deferred (some []))->WS w V' gw u e z b r s y (.slice ao n co) vs' mo2 ms' mr->(Pe.oths mo2,snts ms')=tickS (idxs mr) d (countN z b r) (Pe.oths mo) (snts ms)->KeepY V1 V'->∃ vs' mo' ms',WS w (V'.putObj D (.deferred none)) gw u e z b r s y (.slice ao n co) vs' mo' ms' mr/\(Pe.oths mo',snts ms')=tickS (idxs mr) d (countN z b r) (Pe.oths mo) (snts ms)/\KeepY W (V'.putObj D (.deferred none))):=fun V' vs' ms' hK hws he hky=>by
   refine⟨vs',mo2,ms',hws.ck (hws.low.trans (belowK_b (w:=w) (Nat.le_refl _) V' D _ _ (by have:=hcc.low.size;omega) hK rfl rfl)) (fun g cs T hg=>?_),he,(KV1.out.trans hky).grown K2.out.1 (grownBy_putObj' V' D _) (fun r e=>by cases e;exact hD)⟩
   rw[World.putObj_heap_other (fun e=>by subst e;rw[hK]at hg;cases hg)]
   exact hg
  have HSH:=hideK (fun V' (hV':Below V1.heap.size V1 V') i=>sendHave_any w V' gw u e z b r s y ao n co vs2 mo2 ms2 mr i (WS1.out.call hV') (by have:=HSN.out;omega))
  have HHS:=hideK (fun V' (hV':Below V1.heap.size V1 V') i=>has_any gw w.heap.size mr.length i u mr V' (cell_of_row V' gw 0 _ _ _ (by have:=(WS1.out.call hV').gwb;unfold wpB at this;exact this)) (lt_rowK (WS1.out.call hV').gwb) (WS1.out.call hV').rrow WS1.out.rsl rfl hmr)
  have HDR:Hid (Below V1.heap.size V1 V1.drew):=(Below.refl _ _).drew
  have c0:V1.drew.cell? ⟨gk,0,none⟩=some (.pointer (some ⟨gw,0,none⟩)):=cell_of_row V1.drew gk 0 _ _ _ (CX1.out.get 3 rfl)
  have c1:V1.drew.cell? ⟨gk+1,0,none⟩=some (.int .i64 d):=cell_of_row V1.drew (gk+1) 0 _ _ _ (CX1.out.get 2 rfl)
  generalize hce:countN z b r=c
  have HCE:=hideK hce
  clear hce
  by_cases hc0:0<c
  ·have hcI:(0:Int)<(c:Int):=by omega
   have hcD:decide ((0:Int)<(c:Int))=true:=by simp;omega
   have hcz:¬(c:Int)=0:=by omega
   have hcz':¬c=0:=by omega
   have hczb:((c:Int)==0)=false:=by simp;omega
   have htm:d.tmod (c:Int)=d%(c:Int):=Int.tmod_eq_emod_of_nonneg hd
   have hx0:0<=d%(c:Int):=Int.emod_nonneg _ hcz
   have hx1:d%(c:Int)<(c:Int):=Int.emod_lt_of_pos _ hcI
   have HA:=hideK (HHS.out V1.drew HDR.out (d%(c:Int)))
   rw[hasR_mem]at HA
   have HS1':Hid (d%(c:Int)∈idxs mr->tickS (idxs mr) d (countN z b r) (Pe.oths mo) (snts ms)=(Pe.oths mo2,snts ms2++tellL (Pe.oths mo2) (d%(c:Int)))):=fun h=>by
    have:=HS1.out
    rw[HCE.out]at this ⊢
    exact this ⟨hc0,h⟩
   have HS0':Hid (¬d%(c:Int)∈idxs mr->tickS (idxs mr) d (countN z b r) (Pe.oths mo) (snts ms)=(Pe.oths mo2,snts ms2)):=fun h=>by
    have:=HS0.out
    rw[HCE.out]at this ⊢
    exact this (fun h'=>h h'.2)
   clear HS1 HS0
   generalize d%(c:Int)=x at htm hx0 hx1 HA HS1' HS0'
   gi_wp2
   refine So.wpIn_region_still_tail 10 hmx (by kernel_rfl) ?_
   simp only[List.take,List.drop]
   repeat still_step
   refine wpStill_nil ?_
   gi_wp2
   refine⟨trivial,(callsIn_wide.2 HA.out).mono ?_⟩
   rintro o1 V2 ⟨rfl,hb⟩
   have HB2:=hideK (HDR.out.trans (hb.mono HDR.out.size))
   have HK2:Hid (V2.heap[D]? = some (.deferred (some []))):=(HB2.out.block D (lt_rowK HK1.out)).trans HK1.out
   have CX2:=hideK (CX1.out.call HB2.out)
   have WS2:=hideK (WS1.out.call HB2.out)
   clear hb HA HHS CX1 c0 c1
   by_cases hm:x∈idxs mr
   ·rw[decide_eq_true hm]
    have HE:=hideK (HS1'.out hm)
    have SH:=hideK (HSH.out V2.drew (HB2.out.trans ((Below.refl _ _).drew.mono HB2.out.size)) x)
    have c0:V2.drew.cell? ⟨gk,0,none⟩=some (.pointer (some ⟨gw,0,none⟩)):=cell_of_row V2.drew gk 0 _ _ _ (CX2.out.get 3 rfl)
    have c1:V2.drew.cell? ⟨gk+1,0,none⟩=some (.int .i64 d):=cell_of_row V2.drew (gk+1) 0 _ _ _ (CX2.out.get 2 rfl)
    clear HS1' HS0' HSH
    gi_wp2
    refine So.wpIn_region_still_tail 4 hmx (by kernel_rfl) ?_
    simp only[List.take,List.drop]
    repeat still_step
    refine wpStill_nil ?_
    gi_wp2
    refine⟨trivial,(callsIn_wide.2 SH.out).mono ?_⟩
    rintro o1 V3 ⟨rfl,vs3,ms3,hws3,hsm3,hky3⟩
    have HK3:Hid (V3.heap[D]? = some (.deferred (some []))):=hky3.2 D _ HK2.out (fun _ _ e=>by cases e)
    have HE3:=hideK (HFIN.out V3 vs3 ms3 HK3.out hws3 (by rw[HE.out,hsm3]) ((KeepY.below HB2.out).trans (KeepY.trans (KeepY.below ((Below.refl _ _).drew)) hky3)))
    clear hws3 hsm3 hky3 SH HFIN
    gi_wp2
    refine⟨by simp,.inl ⟨_,_,rfl,run_takeDeferred HK3.out,?_⟩⟩
    exact⟨_,results_none rfl _ _ _,rfl,HE3.out⟩
   ·rw[decide_eq_false hm]
    have HE:=hideK (HFIN.out V2 vs2 ms2 HK2.out WS2.out (HS0'.out hm).symm (KeepY.below HB2.out))
    clear HS1' HS0' HSH HFIN
    gi_wp2
    refine⟨by simp,.inl ⟨_,_,rfl,run_takeDeferred HK2.out,?_⟩⟩
    exact⟨_,results_none rfl _ _ _,rfl,HE.out⟩
  ·have hcD:decide ((0:Int)<(c:Int))=false:=by simp;omega
   have hcD2:decide (0<c)=false:=by simp;omega
   have hcI:¬(0:Int)<(c:Int):=by omega
   have HE:=hideK (HFIN.out V1.drew vs2 ms2 HK1.out (WS1.out.call HDR.out) (HS0.out (fun h=>hc0 (by rw[<-HCE.out];exact h.1))).symm (KeepY.below HDR.out))
   have HK4:Hid (V1.drew.heap[D]? = some (.deferred (some []))):=HK1.out
   clear HS0 HS1 HFIN HSH HHS hcc hI0 CX1 WS1 HK1 HDR c0 c1
   gi_wp2
   refine So.wpIn_region_still_tail 10 hmx (by kernel_rfl) ?_
   simp only[List.take,List.drop]
   repeat still_step
   refine wpStill_nil ?_
   gi_wp2
   refine⟨trivial,?_⟩
   gi_wp2
   refine⟨by simp,.inl ⟨_,_,rfl,run_takeDeferred HK4.out,?_⟩⟩
   exact⟨_,results_none rfl _ _ _,rfl,HE.out⟩
 case stop =>
  rintro D c pre V _ _ h _
  exact h.elim
end Go.Proofs.YtpddanmnlkcdpaaGreatDoor.Tk

