/- Texts put together: PmSend, KqAll. -/
import Derived.Test.YtpddanmnlkcdpaaGreatDoorTz29
import Derived.Test.YtpddanmnlkcdpaaGreatDoorTz34
import Derived.Test.YtpddanmnlkcdpaaGreatDoorTz22
import Derived.Test.YtpddanmnlkcdpaaGreatDoorTz43
import Derived.Test.YtpddanmnlkcdpaaGreatDoorTz35
import Derived.Test.YtpddanmnlkcdpaaGreatDoorTz37
import Derived.Test.YtpddanmnlkcdpaaGreatDoorTz33
set_option maxRecDepth 100000
set_option maxHeartbeats 8000000
namespace Go.Proofs.YtpddanmnlkcdpaaGreatDoor.Pl
open Go.RowKit
open Kp
open Pe
open Ls (blk_alloc)
open Sh (step_append_own)
theorem Tryz.infoSent:(Tryz.prog.info? 114).map (fun i=>(i.zero,i.size,i.bytes))=some (some (.agg #[.string ⟨#[]⟩,.int .i64 0,.int .i64 0,.string ⟨#[]⟩,.slice none 0 0]),5,72):=by kernel_rfl
theorem OwnL.blk {W:World} {base k:Nat} {v:Value} {m:List ML} (h:OwnL W base v m) (hk:v.ownBlock=some k):∃ cs,W.heap[k]? = some (.cells cs 114 (0,0)):=by
 obtain⟨_,h⟩:=h
 rcases h with⟨rfl,_⟩|⟨g,cap,cur,rfl,_,hb,_⟩
 ·simp[Value.ownBlock]at hk
 ·simp[Value.ownBlock]at hk
  subst hk
  exact⟨cur,hb⟩
theorem OwnL.others {W W':World} {base g:Nat} {v:Value} {m:List ML} {cs:Array Value} {T:TypeId} (h:OwnL W base v m) (hg:W.heap[g]? = some (.cells cs T (0,0))) (hT:T≠114) (hk:∀ k o,W.heap[k]? = some o->k≠g->W'.heap[k]? = some o):OwnL W' base v m:=by
 obtain⟨hl,h⟩:=h
 refine⟨hl,?_⟩
 rcases h with h|⟨k,cap,cur,hv,hkb,hb,rest⟩
 ·exact .inl h
 ·exact .inr ⟨k,cap,cur,hv,hkb,hk k _ hb (ty_ne hb hg (fun e=>hT e.symm)),rest⟩
def wpB (u:Value) (e z b:Int) (r s:ByteArray) (y:Int) (vo vs:Value):Obj:=.cells #[u,.int .i64 e,.int .i64 z,.int .i64 b,.string r,.string s,.int .i64 y,vo,vs] 78
theorem wp_set8 {W:World} {g:Nat} {u:Value} {e z b:Int} {r s:ByteArray} {y:Int} {vo vs:Value} (h:W.heap[g]? = some (wpB u e z b r s y vo vs)) (v:Value):(W.setCell ⟨g,8,none⟩ v).heap[g]? = some (wpB u e z b r s y vo v):=by
 unfold wpB at h ⊢
 rw[heap_setCell_same W g 8 _ _ v h]
 rfl
theorem send_end {w w1 w8:World} {o:Obj} {g base:Nat} {x:ML} {e z b:Int} {r s:ByteArray} {y:Int} {u vo vs v8:Value} {m:List ML} (hg:w.heap[g]? = some (wpB u e z b r s y vo vs)) (ho:OwnL w base vs m) (hw1:∃ q,w1=w.alloc q) (hbase:base<=w.heap.size)
  (hg8:(w1.drew.alloc o).grownBy w8 vs.ownBlock) (ho8:w8.ownsRow base 114 5 v8 (m.length+1) (cellsL m++[.string x.1.who,.int .i64 x.1.kind,.int .i64 x.1.index,.string x.1.piece,x.2])) :
  w8.heap[g]? = some (wpB u e z b r s y vo vs)/\∃ v',(w8.setCell ⟨g,8,none⟩ v8).heap[g]? = some (wpB u e z b r s y vo v')/\OwnL (w8.setCell ⟨g,8,none⟩ v8) base v' (m++[x]) /\
    (∀ k o,w.heap[k]? = some o->k≠g->vs.ownBlock≠some k->(w8.setCell ⟨g,8,none⟩ v8).heap[k]? = some o)/\(∀ B,B<=base->B<=g->Below B w (w8.setCell ⟨g,8,none⟩ v8)):=by
 obtain⟨q,rfl⟩:=hw1
 have hT1:(78:Nat)≠114:=by decide
 have hne:vs.ownBlock≠some g:=fun e=>by
  obtain⟨cs,hc⟩:=ho.blk e
  unfold wpB at hg
  exact ty_ne hg hc hT1 rfl
 have up:∀ k u,w.heap[k]? = some u->((w.alloc q).drew.alloc o).heap[k]? = some u:=fun k u h=>blk_alloc (W:=(w.alloc q).drew) (blk_alloc h q) o
 have h8:w8.heap[g]? = some (wpB u e z b r s y vo vs):=grown_blk hg8 (up g _ hg) hne
 have o8:OwnL w8 base v8 (m++[x]):=OwnL.snoc ho8
 refine⟨h8,v8,wp_set8 h8 v8,?_,?_,?_⟩
 ·refine OwnL.others (W:=w8) (g:=g) o8 (by unfold wpB at h8;exact h8) hT1 (fun k o hk hkg=>?_)
  rw[heap_setCell_other _ _ k _ (by exact hkg)]
  exact hk
 ·intro k u hk hkg hkv
  rw[heap_setCell_other _ _ k _ (by exact hkg)]
  exact grown_blk hg8 (up k _ hk) hkv
 ·intro B hB hBg
  have hBs:B<=w.heap.size:=by have:=lt_rowK hg;omega
  refine(((((Below.refl B w).alloc hBs q).drew).alloc (by simp;omega) o).grown hg8 (by simp;omega) ?_).setCell (p:=⟨g,8,none⟩) hBg v8
  intro k hk
  exact Nat.le_trans hB (World.ownsRow.lt ho k hk).1
def SendPost (g base:Nat) (x:ML) (u:Value) (e z b:Int) (r s:ByteArray) (y:Int) (vo vs:Value) (m:List ML) (w w':World):Prop :=
 ∃ v',w'.heap[g]? = some (wpB u e z b r s y vo v')/\OwnL w' base v' (m++[x])/\(∀ k o,w.heap[k]? = some o->k≠g->vs.ownBlock≠some k->w'.heap[k]? = some o)/\(∀ B,B<=base->B<=g->Below B w w')
theorem send_any (g base n:Nat) (x:ML) (u:Value) (e z b:Int) (r s:ByteArray) (y:Int) (vo vs:Value) (m:List ML) (w:World) (hg:w.heap[g]? = some (wpB u e z b r s y vo vs)) (ho:OwnL w base vs m) (hbase:base<=w.heap.size) (hn:m.length=n) (hm:n<=1048576) (hx:∃ a n cap,x.2=.slice a n cap) :
  Calls Tryz.prog 38 #[.pointer (some ⟨g,0,none⟩),.string x.1.who,.agg #[.int .i64 x.1.kind,.int .i64 x.1.index,.string x.1.piece,x.2]] w fun q w' =>
   q=.returned (.tuple #[])/\SendPost g base x u e z b r s y vo vs m w w':=by
 obtain⟨i0,hi,hz0,hz1,hz2⟩:=info_parts Tryz.infoSent
 have HEND:=hideK (fun w1 w8 o v8=>send_end (w:=w) (w1:=w1) (w8:=w8) (o:=o) (x:=x) (v8:=v8) hg ho)
 obtain⟨⟨xt,xk,xi,xp,xl⟩,xv⟩:=x
 obtain⟨ap,np,cp,hxv⟩:=hx
 unfold SendPost
 dsimp only at hxv HEND ⊢
 subst hxv
 subst hn
 obtain⟨w1,hw1⟩:∃ w1,w1=w.alloc (.cells #[.int .i64 xk,.int .i64 xi,.string xp,.slice ap np cp] 51):=⟨_,rfl⟩
 have HX1:Hid (w1.heap[w.heap.size]? = some (.cells #[.int .i64 xk,.int .i64 xi,.string xp,.slice ap np cp] 51 (0,0))):=by rw[hw1];exact heap_alloc_new w _
 have B1:Hid (Below w.heap.size w w1):=by rw[hw1];exact(Below.refl _ _).alloc (Nat.le_refl _) _
 have G1:Hid (w1.heap[g]? = some (wpB u e z b r s y vo vs)):=by rw[hw1];exact blk_alloc hg _
 have O1:Hid (OwnL w1 base vs m):=by rw[hw1];exact ho.alloc _
 have HW1:Hid (∃ q,w1=w.alloc q):=⟨_,hw1⟩
 have OD:=hideK ((O1.out.below (show Below w1.heap.size w1 w1.drew from (Below.refl _ _).drew)).alloc (.cells #[.string xt,.int .i64 xk,.int .i64 xi,.string xp,.slice ap np cp] 114))
 have hz1':base<=w1.heap.size:=Nat.le_trans hbase B1.out.size
 clear hg ho
 obtain⟨a,cap,hv,_,_⟩:=O1.out.one
 have x0:=cell_of_row w1 w.heap.size 0 _ _ _ HX1.out
 have x1:=cell_of_row w1 w.heap.size 1 _ _ _ HX1.out
 have x2:=cell_of_row w1 w.heap.size 2 _ _ _ HX1.out
 have x3:=cell_of_row w1 w.heap.size 3 _ _ _ HX1.out
 have k8:w1.cell? ⟨g,8,none⟩=some vs:=cell_of_row w1 g 8 _ _ _ (by have:=G1.out;unfold wpB at this;exact this)
 have hfz:∀ o,w1.frozen? ⟨g,o,none⟩=false:=fun o=>frozen_of_row w1 g o _ _ (by have:=G1.out;unfold wpB at this;exact this)
 have HC8:Hid (∀ W:World,W.heap[g]? = some (wpB u e z b r s y vo vs)->W.cell? ⟨g,8,none⟩=some vs/\∀ o,W.frozen? ⟨g,o,none⟩=false):=fun W h=>by
  unfold wpB at h
  exact⟨cell_of_row W g 8 _ _ _ h,fun o=>frozen_of_row W g o _ _ h⟩
 go_enter Tryz.func38,Tryz.ntmps38
 go_upto_region 1 with fail
 rw[<-hw1]
 clear hw1
 generalize hml:m.length=n at hv OD HEND hm ⊢
 subst hv
 have ODD:Hid (((w1.alloc (.cells #[.string xt,.int .i64 xk,.int .i64 xi,.string xp,.slice ap np cp] 114)).drew).ownsRow base 114 5 (.slice a n cap) n (cellsL m)):=by
  have:=OD.out
  unfold OwnL at this
  rw[hml]at this
  exact this
 have cA:(w1.alloc (.cells #[.string xt,.int .i64 xk,.int .i64 xi,.string xp,.slice ap np cp] 114)).cell? ⟨g,8,none⟩=some (.slice a n cap):=(HC8.out _ (blk_alloc G1.out _)).1
 go_region_law (refine step_append_own rfl (.tmp 10) (.tmp 14) 36 rfl base 114 i0 _ 5 72 Tryz.underlying36 hi hz0 hz1 hz2 rfl (by decide) (.slice a n cap) n _ rfl ODD.out ⟨w1.heap.size,0,none⟩ 1 1 [.string xt,.int .i64 xk,.int .i64 xi,.string xp,.slice ap np cp] rfl rfl (five_new w1.drew _ _ _ _ _ _) (five_one rfl rfl rfl rfl rfl) (by unfold maxLen;omega) (by omega) (by simp;omega) ?_;intro v8 w8 ho8 hg8;obtain⟨a8,c8,hv8⟩:=own_one ho8;subst hv8;obtain⟨G8,HE8⟩:=HEND.out w1 w8 _ _ HW1.out hbase hg8 ho8;have E8:=hideK HE8;clear ho8 hg8 HE8;obtain⟨d8,hf8⟩:=HC8.out w8 G8)
 all_goals (try go_wp2_with fail)
 all_goals (
  refine bodyPost_end (v:=.tuple #[]) (by simp[results,Tryz.results38,go_sem]) rfl ⟨rfl,?_⟩
  exact E8.out)
end Go.Proofs.YtpddanmnlkcdpaaGreatDoor.Pl


namespace Go.Proofs.YtpddanmnlkcdpaaGreatDoor.Kp
open Go.RowKit
open Ls (lV cells3 lowL blkL)
open Ap (Own0 KeepE wpList_append_own0k)
open St (Strs)
def RowQ (W:World) (base:Nat) (v:Value) (m:List MR):Prop:=Own0 W base 139 3 v m.length (cellsR m)
theorem RowQ.one {W:World} {base:Nat} {v:Value} {m:List MR} (h:RowQ W base v m):∃ a cap,v=.slice a m.length cap/\(0<m.length->∃ g,a=some ⟨g,0,none⟩/\g<W.heap.size/\m.length<=cap /\
  ∀ i (hi:i<m.length),W.cell? ⟨g,i*3,none⟩=some (.int .i64 m[i].1.1)/\W.cell? ⟨g,i*3+1,none⟩=some (.string m[i].1.2.1)/\W.cell? ⟨g,i*3+2,none⟩=some m[i].2):=by
 rcases h with⟨b,rfl,hn,_⟩|⟨_,h⟩
 ·exact⟨_,0,by rw[hn],fun h=>absurd h (by omega)⟩
 ·rcases h with⟨rfl,h0⟩|⟨g,cap,cur,hv,hg,hb,hn,_,hs,ht⟩
  ·exact⟨none,0,by rw[h0],fun h=>absurd h (by omega)⟩
  ·refine⟨_,cap,hv,fun _=>⟨g,rfl,lt_rowK hb,hn,fun i hi=>?_⟩⟩
   have hc:=cellsR_at m i hi
   rw[<-ht]at hc
   rw[List.getElem?_take_of_lt (by omega),List.getElem?_take_of_lt (by omega),List.getElem?_take_of_lt (by omega),Array.getElem?_toList,Array.getElem?_toList,Array.getElem?_toList]at hc
   exact⟨(cell_of_row W g _ _ _ _ hb).trans hc.1,(cell_of_row W g _ _ _ _ hb).trans hc.2.1,(cell_of_row W g _ _ _ _ hb).trans hc.2.2⟩
theorem RowQ.below {w w':World} {base:Nat} {v:Value} {m:List MR} (h:RowQ w base v m) (b:Below w.heap.size w w'):RowQ w' base v m:=Own0.below h b
def HasOut (m:List MR) (i:Int) (e:Ending):Prop :=
 (∃ (j:Nat) (hj:j<m.length),m[j].1.1=i/\(∀ k (hk:k<j),¬(m[k]'(Nat.lt_trans hk hj)).1.1=i)/\e=.returned (.int .i64 j))∨((∀ j (hj:j<m.length),¬m[j].1.1=i)/\e=.returned (.int .i64 (-1)))
theorem l08Has_any (base n:Nat) (i:Int) (v:Value) (m:List MR) (w:World) (ho:RowQ w base v m) (hn:m.length=n) (hm:n<=1048576) :
  Calls Tryz.prog 86 #[v,.int .i64 i] w fun r w'=>HasOut m i r/\w'=w:=by
 have HN:=hideK hn
 obtain⟨a,cap,hv,hc⟩:=ho.one
 subst hv
 have HC:=hideK hc
 rw[hn]
 clear ho hc hn
 go_enter Tryz.func86,Tryz.ntmps86
 go_wp2_with fail
 go_loopw [5] (fun jv wr=>∃ (j:Nat),jv=.int .i64 j/\j<=n/\(∀ k (hk:k<m.length),k<j->¬m[k].1.1=i)/\wr=w) (fun jv _=>n-(intOf jv).toNat)
 case atStart=>exact⟨0,rfl,Nat.zero_le _,fun k _ h=>absurd h (Nat.not_lt_zero _),rfl⟩
 case round =>
  obtain⟨j,rfl,hj,hno,hw⟩:=hrel
  subst wr
  have NO:=hideK hno
  clear hno
  by_cases hlt:j<n
  ·have hlt':(j:Int)<(n:Int):=by omega
   have hjm:j<m.length:=by rw[HN.out];exact hlt
   obtain⟨g,rfl,hgl,_,hcl⟩:=HC.out (by rw[HN.out];omega)
   have e0:=(hcl j hjm).1
   have HI:Hid (m[j].1.1=i->HasOut m i (.returned (.int .i64 j))):=fun he=>.inl ⟨j,hjm,he,fun k hk=>NO.out k (Nat.lt_trans hk hjm) hk,rfl⟩
   have HQ:Hid (¬m[j].1.1=i->∀ k (hk:k<m.length),k<j+1->¬m[k].1.1=i):=fun he k hk hk1=>by
    by_cases hkj:k<j
    ·exact NO.out k hk hkj
    ·have:k=j:=by omega
     subst this
     exact he
   generalize m[j].1.1=xi at e0 HI HQ
   clear hcl hjm
   by_cases he:xi=i
   ·subst he
    have HI2:=hideK (HI.out rfl)
    go_wp2_with fail
    go_ret
    exact⟨HI2.out,rfl⟩
   ·have he':(xi==i)=false:=beq_eq_false_iff_ne.2 he
    have HQ2:=hideK (HQ.out he)
    go_wp2_with fail
    go_roundw
    case rel=>exact⟨j+1,by go_num,by omega,HQ2.out,by trivial⟩
    case measure=>simp[intOf];omega
  ·have hltD:decide ((j:Int)<(n:Int))=false:=by simp;omega
   have hlt2:¬((j:Int)<(n:Int)):=by omega
   have NN:Hid (HasOut m i (.returned (.int .i64 (-1)))):=.inr ⟨fun k hk=>NO.out k hk (by have:=HN.out;omega),rfl⟩
   go_wp2_with fail
   go_ret
   exact⟨NN.out,rfl⟩
theorem HasOut.cases {m:List MR} {i:Int} {e:Ending} (h:HasOut m i e):(hasR (recs m) i=true/\∃ j:Nat,e=.returned (.int .i64 j))∨(hasR (recs m) i=false/\e=.returned (.int .i64 (-1))):=by
 rcases h with⟨j,hj,he,_,rfl⟩|⟨hno,rfl⟩
 ·exact .inl ⟨find_some hj he,j,rfl⟩
 ·exact .inr ⟨find_none hno,rfl⟩
def FitS (fit:Rec->Bool) (z b:Int) (r:ByteArray) (w:World):Prop :=
 ∀ (W:World) (x:MR),Below w.heap.size w W->x.1.2.1.size<=8000->x.1.2.2.length<=20->(∃ a cap,x.2=.slice a x.1.2.2.length cap/\x.1.2.2.length<=cap/\Strs W W.heap.size a x.1.2.2)->Calls Tryz.prog 104 #[lV z b r,.int .i64 x.1.1,.string x.1.2.1,x.2] W fun e w'=>e=.returned (.bool (fit x.1))/\Below W.heap.size W w'
theorem FitS.later {fit:Rec->Bool} {z b:Int} {r:ByteArray} {w w':World} (h:FitS fit z b r w) (hb:Below w.heap.size w w'):FitS fit z b r w':=fun W x hW=>h W x (lowL hb hW)
def AllOut (fit:Rec->Bool) (s:ByteArray) (base:Nat) (e:Ending) (w':World):Prop :=
 ∃ v m,e=.returned (.tuple #[v,.int .i64 (allR fit s).2])/\recs m=(allR fit s).1/\RowQ w' base v m/\Paths w' m
structure FarQ (fit:Rec->Bool) (z b:Int) (r s:ByteArray) (gl:Nat) (w wr:World) (v:Value) (m:List MR) (e:Nat):Prop where
 cx:Cx w wr [(gl,.cells #[.int .i64 z,.int .i64 b,.string r] 30)]
 all:goR fit s (s.size-e) (recs m) e=allR fit s
 row:RowQ wr w.heap.size v m
 ps:Paths wr m
 ml:m.length<=e
 el:e<=s.size
theorem FarQ.call {fit:Rec->Bool} {z b:Int} {r s:ByteArray} {gl:Nat} {w wr w':World} {v:Value} {m:List MR} {e:Nat} (h:FarQ fit z b r s gl w wr v m e) (hb:Below wr.heap.size wr w'):FarQ fit z b r s gl w w' v m e :=
 ⟨h.cx.call hb,h.all,h.row.below hb,h.ps.keeps (KeepsS.below hb),h.ml,h.el⟩
theorem FarQ.put {fit:Rec->Bool} {z b:Int} {r s:ByteArray} {gl:Nat} {w wr w':World} {v v':Value} {m:List MR} {e:Nat} {x:Rec × Nat} {xv:Value} (h:FarQ fit z b r s gl w wr v m e) (hx:recR s e=some x) (hf:fit x.1=true) (hh:hasR (recs m) x.1.1=false) (hp:PathIn wr xv x.1.2.2)
  (h2:w'.ownsRow w.heap.size 139 3 v' (m.length+1) (cellsR m++[.int .i64 x.1.1,.string x.1.2.1,xv])) (h3:∀ B,B<=w.heap.size->Below B wr w') (h4:KeepE 139 wr w'):FarQ fit z b r s gl w w' v' (m++[(x.1,xv)]) x.2:=by
 have hfx:=recR_facts hx
 have hk:KeepsS wr w':=fun g cur hg=>h4 g cur _ (by decide) hg
 refine⟨⟨h.cx.low.trans (h3 _ (Nat.le_refl _)),?_⟩,?_,.inr ?_,?_,?_,hfx.2.1⟩
 ·intro q hq
  rw[List.mem_singleton.1 hq]
  exact h4 gl _ _ (by decide) (h.cx.get 0 rfl)
 ·rw[<-h.all,goR_step hx hf hh]
  unfold recs
  rw[List.map_append]
  rfl
 ·rw[List.length_append,cellsR_append]
  exact h2
 ·intro q hq
  rcases List.mem_append.1 hq with hq|hq
  ·exact(h.ps q hq).keeps hk
  ·rw[List.mem_singleton.1 hq]
   exact hp.keeps hk
 ·rw[List.length_append]
  have:=h.ml
  simp
  omega
theorem Tryz.infoRecordS:(Tryz.prog.info? 139).map (fun i=>(i.zero,i.size,i.bytes))=some (some (.agg #[.int .i64 0,.string ⟨#[]⟩,.slice none 0 0]),3,48):=by kernel_rfl
theorem FarQ.done {fit:Rec->Bool} {z b:Int} {r s:ByteArray} {gl:Nat} {w wr:World} {v:Value} {m:List MR} {e:Nat} (h:FarQ fit z b r s gl w wr v m e) (hd:goR fit s (s.size-e) (recs m) e=(recs m,e)):AllOut fit s w.heap.size (.returned (.tuple #[v,.int .i64 e])) wr/\Below w.heap.size w wr:=by
 have hall:allR fit s=(recs m,e):=by rw[<-h.all,hd]
 exact⟨⟨v,m,by rw[hall],by rw[hall],h.row,h.ps⟩,h.cx.low⟩
theorem l08All_any (fit:Rec->Bool) (z b:Int) (r s:ByteArray) (w:World) (hs:s.size<=1048576) (hf:FitS fit z b r w) :
  Calls Tryz.prog 61 #[lV z b r,.string s] w fun e w'=>AllOut fit s w.heap.size e w'/\Below w.heap.size w w':=by
 obtain⟨i0,hif,hz0,hz1,hz2⟩:=info_parts Tryz.infoRecordS
 have HF:=hideK hf
 have C0:=hideK (((Cx.nil w).new (.cells #[.int .i64 z,.int .i64 b,.string r] 30)))
 unfold lV
 clear hf
 go_enter Tryz.func61,Tryz.ntmps61
 go_wp2_with fail
 have F0:Hid (FarQ fit z b r s w.heap.size w ((w.alloc (.cells #[.int .i64 z,.int .i64 b,.string r] 30)).alloc (.cells #[] 139)) (.slice (some ⟨w.heap.size+1,0,none⟩) 0 0) [] 0):=⟨C0.out.call ((Below.refl _ _).alloc (Nat.le_refl _) _),rfl,.inl ⟨_,rfl,rfl,rfl⟩,fun x hx=>absurd hx List.not_mem_nil,Nat.zero_le _,Nat.zero_le _⟩
 clear C0
 go_loopw [6,7,8,9,10] (fun lv ev _ _ _ wr=>∃ v m e,lv=v/\ev=.int .i64 ((e:Nat):Int)/\FarQ fit z b r s w.heap.size w wr v m e) (fun _ ev _ _ _ _=>s.size-(intOf ev).toNat)
 case atStart=>exact⟨_,[],0,rfl,rfl,F0.out⟩
 case round =>
  obtain⟨v,m,e,rfl,rfl,hfar⟩:=hrel
  have F:=hideK hfar
  obtain⟨a0,cap0,hv,_⟩:=hfar.row.one
  subst hv
  clear hfar F0
  by_cases hlt:e<s.size
  ·have hlt':(e:Int)<(s.size:Int):=by omega
   have HRR:=hideK (l08Read_any s e wr hs)
   go_wp2_with fail
   refine HRR.out.mono ?_
   rintro e' w1 ⟨hro,hb⟩
   have F1:=hideK (F.out.call hb)
   clear hb HRR F
   rcases hro with⟨x,xv,hx,rfl,hp⟩|⟨hx,xi,xt,xa,xn,xc,xk,rfl⟩
   ·obtain⟨ap,cp,rfl,_,_⟩:=hp.strs
    have hfx:=recR_facts hx
    have HX:=hideK hx
    have F2:=hideK (F1.out.call ((Below.refl _ w1).alloc (Nat.le_refl _) (.cells #[.int .i64 x.1.1,.string x.1.2.1,.slice ap x.1.2.2.length cp] 139)))
    have P2:=hideK (hp.keeps (KeepsS.below ((Below.refl _ w1).alloc (Nat.le_refl _) (.cells #[.int .i64 x.1.1,.string x.1.2.1,.slice ap x.1.2.2.length cp] 139))))
    have X2:Hid ((w1.alloc (.cells #[.int .i64 x.1.1,.string x.1.2.1,.slice ap x.1.2.2.length cp] 139)).heap[w1.heap.size]? = some (.cells #[.int .i64 x.1.1,.string x.1.2.1,.slice ap x.1.2.2.length cp] 139 (0,0))):=heap_alloc_new w1 _
    clear hp hx F1
    obtain⟨⟨xi,xt,xp⟩,xe⟩:=x
    dsimp only at F2 P2 X2 HX hfx ⊢
    go_upto_region 5 with fail
    generalize w1.alloc (.cells #[.int .i64 xi,.string xt,.slice ap xp.length cp] 139)=W2 at F2 P2 X2 ⊢
    generalize w1.heap.size=gx at X2 ⊢
    obtain⟨x0,x1,x2⟩:=cells3 X2.out
    obtain⟨l0,l1,l2⟩:=cells3 (F2.out.cx.get 0 rfl)
    have HHS:=hideK (l08Has_any w.heap.size m.length xi _ m W2 F2.out.row rfl (by have:=F2.out.ml;have:=F2.out.el;omega))
    have HFX:=hideK (HF.out W2 ((xi,xt,xp),.slice ap xp.length cp) F2.out.cx.low hfx.2.2.2.2 hfx.2.2.2.1 P2.out.strs)
    unfold lV at HFX
    dsimp only at HFX
    go_wp2_with fail
    refine HHS.out.mono ?_
    rintro e3 w3 ⟨hho,hw⟩
    subst w3
    rcases hho.cases with⟨hhas,jh,rfl⟩|⟨hhas,rfl⟩
    ·have HBD:Hid (goR fit s (s.size-e) (recs m) e=(recs m,e)):=goR_bad HX.out (fun h=>by have:=h.2;rw[hhas]at this;cases this)
     have HD:=hideK (F2.out.done HBD.out)
     clear hho hhas HHS HFX
     go_wp2_with fail
     go_ret2
     exact HD.out
    ·cases hfit:fit (xi,xt,xp) with
     |false =>
      rw[hfit]at HFX
      have HBD:Hid (goR fit s (s.size-e) (recs m) e=(recs m,e)):=goR_bad HX.out (fun h=>by have:=h.1;rw[hfit]at this;cases this)
      clear hho hhas HHS hfit
      go_wp2_with fail
      refine HFX.out.mono ?_
      rintro e4 w4 ⟨rfl,hb⟩
      have HD:=hideK ((F2.out.call hb).done HBD.out)
      clear hb
      go_wp2_with fail
      go_ret2
      exact HD.out
     |true =>
      rw[hfit]at HFX
      have HXF:=hideK (And.intro hfit hhas)
      clear hho hhas HHS hfit
      go_wp2_with fail
      refine HFX.out.mono ?_
      rintro e4 w4 ⟨rfl,hb⟩
      have F4:=hideK (F2.out.call hb)
      have P4:=hideK (P2.out.keeps (KeepsS.below hb))
      have X4:=hideK (blkL X2.out hb)
      clear hb F2 P2 X2 HFX x0 x1 x2 l0 l1 l2
      obtain⟨x0,x1,x2⟩:=cells3 X4.out
      have F5:=hideK (F4.out.call ((Below.refl _ w4).alloc (Nat.le_refl _) (.cells #[.int .i64 xi,.string xt,.slice ap xp.length cp] 139)))
      have P5:=hideK (P4.out.keeps (KeepsS.below ((Below.refl _ w4).alloc (Nat.le_refl _) (.cells #[.int .i64 xi,.string xt,.slice ap xp.length cp] 139))))
      have hlow:=F4.out.cx.low.size
      have hml:=F4.out.ml
      have hel:=F4.out.el
      have ROW:Hid (Own0 (w4.alloc (.cells #[.int .i64 xi,.string xt,.slice ap xp.length cp] 139)) w.heap.size 139 3 (.slice a0 m.length cap0) m.length (cellsR m)):=F5.out.row
      have FP:=hideK (fun (wb:World) (va:Value)=>F5.out.put (w':=wb) (v':=va) (x:=((xi,xt,xp),xe)) (xv:=.slice ap xp.length cp) HX.out HXF.out.1 HXF.out.2 P5.out)
      dsimp only at FP
      generalize hmn:m.length=n at ROW FP hml ⊢
      go_wp2_with (at_builtin;refine wpList_append_own0k _ rfl (.tmp 43) (.tmp 45) 67 rfl w.heap.size 139 i0 _ 3 48 Tryz.underlying67 hif hz0 hz1 hz2 rfl (by decide) _ _ _ rfl ROW.out ⟨w4.heap.size,0,none⟩ 1 1 [.int .i64 xi,.string xt,.slice ap xp.length cp] rfl rfl (three_new w4 _ _ _ _) (three_one rfl rfl rfl) (by decide) (by unfold maxLen;omega) (by omega) (by simp;omega) ?_)
      intro v' w5 hown hB hK
      have F6:=hideK (FP.out w5 v' hown hB hK)
      clear hown hB hK FP ROW F5 P5 F4 P4 X4 x0 x1 x2
      go_wp2_with fail
      go_roundw
      case rel=>exact⟨_,_,_,rfl,rfl,F6.out⟩
      case measure=>simp[intOf];omega
   ·have HBD:Hid (goR fit s (s.size-e) (recs m) e=(recs m,e)):=goR_none hx
    have F2:=hideK (F1.out.call ((Below.refl _ w1).alloc (Nat.le_refl _) (.cells #[.int .i64 xi,.string xt,.slice xa xn xc] 139)))
    have HD:=hideK (F2.out.done HBD.out)
    clear hx F1 F2
    go_wp2_with fail
    go_ret2
    exact HD.out
  ·have hltD:decide ((e:Int)<(s.size:Int))=false:=by simp;omega
   have hlt2:¬((e:Int)<(s.size:Int)):=by omega
   have HBD:Hid (goR fit s (s.size-e) (recs m) e=(recs m,e)):=goR_end (by omega)
   have HD:=hideK (F.out.done HBD.out)
   go_wp2_with fail
   go_ret2
   exact HD.out
end Go.Proofs.YtpddanmnlkcdpaaGreatDoor.Kp

