/- Texts put together: PmOut, PeTo3, PeMark, PeMark2, PeMark3, PeMark4, PmMeet. -/
import Derived.Test.YtpddanmnlkcdpaaGreatDoorMz45
import Derived.Test.YtpddanmnlkcdpaaGreatDoorMz35
import Derived.Test.YtpddanmnlkcdpaaGreatDoorMz31
import Derived.Test.YtpddanmnlkcdpaaGreatDoorMz40
import Derived.Test.YtpddanmnlkcdpaaGreatDoorMz41
set_option maxRecDepth 100000
set_option maxHeartbeats 8000000
namespace Go.Proofs.YtpddanmnlkcdpaaGreatDoor.Pl
open Go.RowKit
open Kp
open Pe
open Ls (blk_alloc lowL)
structure PO where
 z:Int
 b:Int
 r:ByteArray
 s:ByteArray
 y:Int
 os:List Oth
 ss:List Snt
 c:Int
def ill (c:Int):PO:=⟨0,0,⟨#[]⟩,⟨#[]⟩,0,[],[],c⟩
def poV (z b:Int) (r s:ByteArray) (y:Int) (vo vs:Value) (c:Int):Value:=.agg #[.int .i64 z,.int .i64 b,.string r,.string s,.int .i64 y,vo,vs,.int .i64 c]
def poO (z b:Int) (r s:ByteArray) (y:Int) (vo vs:Value) (c:Int):Obj:=.cells #[.int .i64 z,.int .i64 b,.string r,.string s,.int .i64 y,vo,vs,.int .i64 c] 38
def ApartL (m:List ML):Prop:=m.Pairwise fun x y=>∀ g,x.2.ownBlock=some g->y.2.ownBlock≠some g
structure PoIn (W:World) (base:Nat) (vo vs:Value) (mo:List MO) (ms:List ML):Prop where
 orow:OwnO W base vo mo
 has:Hass W base mo
 ap:Apart mo
 srow:OwnL W base vs ms
 pth:Pths W base ms
 apl:ApartL ms
theorem PoIn.call {W W':World} {base:Nat} {vo vs:Value} {mo:List MO} {ms:List ML} (h:PoIn W base vo vs mo ms) (hb:Below W.heap.size W W'):PoIn W' base vo vs mo ms :=
 ⟨h.orow.below hb,h.has.below hb,h.ap,h.srow.below hb,h.pth.below hb,h.apl⟩
theorem PoIn.mono {W:World} {base base':Nat} {vo vs:Value} {mo:List MO} {ms:List ML} (h:PoIn W base vo vs mo ms) (hb:base'<=base):PoIn W base' vo vs mo ms :=
 ⟨h.orow.mono hb,fun x hx=>(h.has x hx).mono hb,h.ap,h.srow.mono hb,h.pth.mono hb,h.apl⟩
theorem poIn_nil (W:World) (base:Nat):PoIn W base (.slice none 0 0) (.slice none 0 0) [] [] :=
 ⟨OwnO.nil _ _,fun _ hx=>absurd hx List.not_mem_nil,List.Pairwise.nil,OwnL.nil _ _,fun _ hx=>absurd hx List.not_mem_nil,List.Pairwise.nil⟩
def OwnPO (W:World) (base:Nat) (e:Ending) (p:PO):Prop:=∃ vo vs mo ms,e=.returned (poV p.z p.b p.r p.s p.y vo vs p.c)/\oths mo=p.os/\snts ms=p.ss/\PoIn W base vo vs mo ms
def SeePO (W:World) (B:Nat) (e:Ending) (p:PO):Prop:=∃ ao no co as' ns cs mo ms,e=.returned (poV p.z p.b p.r p.s p.y (.slice ao no co) (.slice as' ns cs) p.c)/\oths mo=p.os/\snts ms=p.ss/\mo.length=no/\ms.length=ns/\Oths W B ao mo/\Snts W B as' ms
def OwnPN (W:World) (base:Nat) (e:Ending) (p:PO):Prop:=∃ vo vs mo ms,e=.returned (poV p.z p.b p.r p.s p.y vo vs p.c)/\oths mo=p.os/\snts ms=p.ss/\PoIn W base vo vs mo ms/\∀ x∈ms,x.2=.slice none 0 0/\x.1.path=[]
theorem own_illN (W:World) (base:Nat) (c:Int):OwnPN W base (.returned (poV 0 0 ⟨#[]⟩ ⟨#[]⟩ 0 (.slice none 0 0) (.slice none 0 0) c)) (ill c):=⟨_,_,[],[],rfl,rfl,rfl,poIn_nil _ _,fun _ hx=>absurd hx List.not_mem_nil⟩
theorem own_ill (W:World) (base:Nat) (c:Int):OwnPO W base (.returned (poV 0 0 ⟨#[]⟩ ⟨#[]⟩ 0 (.slice none 0 0) (.slice none 0 0) c)) (ill c):=⟨_,_,[],[],rfl,rfl,rfl,poIn_nil _ _⟩
theorem PoIn.oths {W:World} {base no co ns cs:Nat} {ao as':Option Addr} {mo:List MO} {ms:List ML} (h:PoIn W base (.slice ao no co) (.slice as' ns cs) mo ms):(Oths W W.heap.size ao mo/\mo.length=no)/\Snts W W.heap.size as' ms/\ms.length=ns :=
 ⟨MadeO.oths (m:=mo) ⟨rfl,h.orow,h.has,h.ap⟩,own_snts h.srow h.pth⟩
theorem out_any (g:Nat) (u:Value) (e z b:Int) (r s:ByteArray) (y:Int) (ao as':Option Addr) (no co ns cs:Nat) (w:World) (hg:w.heap[g]? = some (wpB u e z b r s y (.slice ao no co) (.slice as' ns cs))) :
  Calls Tryz.prog 39 #[.pointer (some ⟨g,0,none⟩)] w fun q w'=>q=.returned (poV z b r s y (.slice ao no co) (.slice as' ns cs) 0)/\Below w.heap.size w w':=by
 have C0:=hideK ((Cx.nil w).new (poO 0 0 ⟨#[]⟩ ⟨#[]⟩ 0 (.slice none 0 0) (.slice none 0 0) 0))
 have G0:Hid ((w.alloc (poO 0 0 ⟨#[]⟩ ⟨#[]⟩ 0 (.slice none 0 0) (.slice none 0 0) 0)).heap[g]? = some (wpB u e z b r s y (.slice ao no co) (.slice as' ns cs))):=blk_alloc hg _
 clear hg
 have hmx:=mixedK
 unfold poO at C0 G0
 unfold poV
 unfold wpB at G0
 go_enter Tryz.func39,Tryz.ntmps39
 go_upto_region 1 with fail
 generalize hgk:w.heap.size=gk at C0 ⊢
 generalize w.alloc _=W0 at C0 G0 ⊢
 obtain⟨p0,p1,p2,p3,p4,p5,p6,p7,p8⟩:=cellsP9 G0.out
 obtain⟨q0,q1,q2,q3,q4,q5,q6,q7⟩:=cellsP8 (C0.out.get 0 rfl)
 have ff:=fun o=>frozen_of_row W0 gk o _ _ (C0.out.get 0 rfl)
 have s8:=cellsP8 (setP8 (W:=W0) (C0.out.get 0 rfl) (.int .i64 z) (.int .i64 b) (.string r) (.string s) (.int .i64 y) (.slice ao no co) (.slice as' ns cs) (.int .i64 0))
 have E8:=hideK (setP8_low (W:=W0) C0.out.low (g:=gk) (by omega) (.int .i64 z) (.int .i64 b) (.string r) (.string s) (.int .i64 y) (.slice ao no co) (.slice as' ns cs) (.int .i64 0))
 refine Sh.still_tail 15 hmx (by kernel_rfl) ?_
 simp only[List.take_succ_cons,List.take_zero,List.drop_succ_cons,List.drop_zero]
 repeat still_step
 refine wpStill_nil ?_
 go_wp2_with fail
 exact bodyPost_ret (v:=.agg #[.int .i64 z,.int .i64 b,.string r,.string s,.int .i64 y,.slice ao no co,.slice as' ns cs,.int .i64 0]) (by simp[results,Tryz.results39,go_sem,s8.1,s8.2.1,s8.2.2.1,s8.2.2.2.1,s8.2.2.2.2.1,s8.2.2.2.2.2.1,s8.2.2.2.2.2.2.1,s8.2.2.2.2.2.2.2]) rfl ⟨rfl,E8.out.drew⟩
end Go.Proofs.YtpddanmnlkcdpaaGreatDoor.Pl


namespace Go.Proofs.YtpddanmnlkcdpaaGreatDoor.Pe
open Go.RowKit
open Kp
open In (Ints OwnI)
open Ap (KeepE)
open Ls (lowL)
theorem OwnO.keepE {W W':World} {base:Nat} {v:Value} {m:List MO} {e:TypeId} (h:OwnO W base v m) (k:KeepE e W W') (he:(86:TypeId)≠e):OwnO W' base v m:=by
 obtain⟨hl,h⟩:=h
 refine⟨hl,?_⟩
 rcases h with h|⟨g,cap,cur,hv,hg,hb,rest⟩
 ·exact .inl h
 ·exact .inr ⟨g,cap,cur,hv,hg,k g cur _ he hb,rest⟩
theorem MadeO.keepE {W W':World} {base:Nat} {v:Value} {m mo:List MO} {e:TypeId} (h:MadeO W base v m mo) (k:KeepE e W W') (h1:(86:TypeId)≠e) (h2:(2:TypeId)≠e):MadeO W' base v m mo:=⟨h.os,h.row.keepE k h1,h.has.keep k h2,h.ap⟩
theorem keepE_six {W:World} {g:Nat} {cs:Array Value} {e:TypeId} (hg:W.heap[g]? = some (.cells cs e (0,0))) (a0 a1 a2 a3 a4 a5:Value):KeepE e W ((((((W.setCell ⟨g,0,none⟩ a0).setCell ⟨g,1,none⟩ a1).setCell ⟨g,2,none⟩ a2).setCell ⟨g,3,none⟩ a3).setCell ⟨g,4,none⟩ a4).setCell ⟨g,5,none⟩ a5):=fun k cur t ht hk =>
 setP6_keep hk (by
  rintro rfl
  rw[hg]at hk
  simp at hk
  exact ht hk.2.symm) _ _ _ _ _ _
def pZ:Obj:=.cells #[.int .i64 0,.int .i64 0,.string ⟨#[]⟩,.string ⟨#[]⟩,.int .i64 0,.slice none 0 0] 35
theorem toP_any (z b:Int) (r s:ByteArray) (y:Int) (a:Option Addr) (n cap:Nat) (m:List MO) (w:World) (h:Oths w w.heap.size a m) (hm:m.length=n) (hn:n<=1048576) (hsm:Small m) :
  Calls Tryz.prog 8 #[lpV z b r s y (.slice a n cap)] w fun e w'=>∃ g mo,e=.returned (peerV z b r s y (.slice (some ⟨g,0,none⟩) n n))/\MadeO w' w.heap.size (.slice (some ⟨g,0,none⟩) n n) m mo/\Below w.heap.size w w':=by
 have HK:=hideK (fun W=>toK_any z b r s y W)
 have HO:=hideK (fun W (hW:Below w.heap.size w W)=>toOs_any a n cap m W ((h.below hW).mono hW.size) hm hn hsm)
 have C0:=hideK ((((Cx.nil w).new (lpO z b r s y (.slice a n cap))).new pZ).new pZ)
 simp only[World.size_alloc]at C0
 clear h hsm
 unfold peerV
 unfold kV at HK
 unfold lpV
 unfold lpO pZ at C0
 go_enter Tryz.func8,Tryz.ntmps8
 go_wp2_with fail
 generalize ((w.alloc _).alloc _).alloc _=W0 at C0 ⊢
 refine(HK.out _).mono ?_
 rintro e w1 ⟨rfl,hb⟩
 have C1:=hideK (C0.out.call hb)
 clear hb C0
 obtain⟨q0,q1,q2,q3,q4,q5⟩:=cellsP6 (C1.out.get 0 rfl)
 have ff:=fun o=>frozen_of_row w1 (w.heap.size+1+1) o _ _ (C1.out.get 0 rfl)
 have D1:Hid (Cx w w1 [(w.heap.size+1,.cells #[.int .i64 0,.int .i64 0,.string ⟨#[]⟩,.string ⟨#[]⟩,.int .i64 0,.slice none 0 0] 35),(w.heap.size,.cells #[.int .i64 z,.int .i64 b,.string r,.string s,.int .i64 y,.slice a n cap] 28)]):=⟨C1.out.low,fun x hx=>C1.out.blk x (List.mem_cons_of_mem _ hx)⟩
 have ne:∀ x∈[(w.heap.size+1,Obj.cells #[.int .i64 0,.int .i64 0,.string ⟨#[]⟩,.string ⟨#[]⟩,.int .i64 0,.slice none 0 0] 35),(w.heap.size,.cells #[.int .i64 z,.int .i64 b,.string r,.string s,.int .i64 y,.slice a n cap] 28)],x.1≠w.heap.size+1+1:=fun x hx=>by
   rcases List.mem_cons.1 hx with rfl|hx
   ·show w.heap.size+1≠w.heap.size+1+1;omega
   ·rw[List.mem_singleton.1 hx];show w.heap.size≠w.heap.size+1+1;omega
 have D5:=hideK (((((D1.out.set (g:=w.heap.size+1+1) (by omega) ne 0 (.int .i64 z)).set (g:=w.heap.size+1+1) (by omega) ne 1 (.int .i64 b)).set (g:=w.heap.size+1+1) (by omega) ne 2 (.string r)).set (g:=w.heap.size+1+1) (by omega) ne 3 (.string s)).set (g:=w.heap.size+1+1) (by omega) ne 4 (.int .i64 y))
 have X1:=setC (cs':=#[.int .i64 z,.int .i64 0,.string ⟨#[]⟩,.string ⟨#[]⟩,.int .i64 0,.slice none 0 0]) (C1.out.get 0 rfl) 0 (.int .i64 z) rfl
 have X2:=setC (cs':=#[.int .i64 z,.int .i64 b,.string ⟨#[]⟩,.string ⟨#[]⟩,.int .i64 0,.slice none 0 0]) X1 1 (.int .i64 b) rfl
 have X3:=setC (cs':=#[.int .i64 z,.int .i64 b,.string r,.string ⟨#[]⟩,.int .i64 0,.slice none 0 0]) X2 2 (.string r) rfl
 have X4:=setC (cs':=#[.int .i64 z,.int .i64 b,.string r,.string s,.int .i64 0,.slice none 0 0]) X3 3 (.string s) rfl
 have X5:=hideK (setC (cs':=#[.int .i64 z,.int .i64 b,.string r,.string s,.int .i64 y,.slice none 0 0]) X4 4 (.int .i64 y) rfl)
 clear X1 X2 X3 X4 D1 C1
 go_upto_region 3 with fail
 generalize ((((w1.setCell _ _).setCell _ _).setCell _ _).setCell _ _).setCell _ _=W5 at D5 X5 ⊢
 clear q0 q1 q2 q3 q4 q5 ff
 have k5:=cell_of_row W5 w.heap.size 5 _ _ _ (D5.out.get 1 rfl)
 simp at k5
 go_wp2_with fail
 refine(HO.out _ D5.out.low).mono ?_
 rintro e w6 ⟨rfl,⟨mo,hmo⟩,hb⟩
 have M6:=hideK (hmo.mono D5.out.low.size)
 have X6:=hideK (Ls.blkL X5.out hb)
 have D6:=hideK (D5.out.call hb)
 clear hb hmo k5 D5 X5
 generalize W5.heap.size=gm at M6 ⊢
 obtain⟨q0,q1,q2,q3,q4,q5⟩:=cellsP6 X6.out
 have ff:=fun o=>frozen_of_row w6 (w.heap.size+1+1) o _ _ X6.out
 have D7:=hideK (D6.out.set (g:=w.heap.size+1+1) (by omega) ne 5 (.slice (some ⟨gm,0,none⟩) n n))
 have X7:=hideK (setC (cs':=#[.int .i64 z,.int .i64 b,.string r,.string s,.int .i64 y,.slice (some ⟨gm,0,none⟩) n n]) X6.out 5 (.slice (some ⟨gm,0,none⟩) n n) rfl)
 have M7:=hideK (M6.out.keepE (keepE_set X6.out 5 (.slice (some ⟨gm,0,none⟩) n n)) (by decide) (by decide))
 go_upto_region 4 with fail
 generalize w6.setCell _ _=W7 at D7 X7 M7 ⊢
 clear q0 q1 q2 q3 q4 q5 ff D6 X6 M6
 obtain⟨q0,q1,q2,q3,q4,q5⟩:=cellsP6 X7.out
 obtain⟨p0,p1,p2,p3,p4,p5⟩:=cellsP6 (D7.out.get 0 rfl)
 have ff:=fun o=>frozen_of_row W7 (w.heap.size+1) o _ _ (D7.out.get 0 rfl)
 have s6:=cellsP6 (setP6 (D7.out.get 0 rfl) (.int .i64 z) (.int .i64 b) (.string r) (.string s) (.int .i64 y) (.slice (some ⟨gm,0,none⟩) n n))
 have E6:=hideK (setP6_low D7.out.low (g:=w.heap.size+1) (by omega) (.int .i64 z) (.int .i64 b) (.string r) (.string s) (.int .i64 y) (.slice (some ⟨gm,0,none⟩) n n))
 have M8:=hideK (M7.out.keepE (keepE_six (D7.out.get 0 rfl) (.int .i64 z) (.int .i64 b) (.string r) (.string s) (.int .i64 y) (.slice (some ⟨gm,0,none⟩) n n)) (by decide) (by decide))
 clear ne
 go_wp2_with fail
 exact bodyPost_ret (v:=.agg #[.int .i64 z,.int .i64 b,.string r,.string s,.int .i64 y,.slice (some ⟨gm,0,none⟩) n n]) (by simp[results,Tryz.results8,go_sem,s6.1,s6.2.1,s6.2.2.1,s6.2.2.2.1,s6.2.2.2.2.1,s6.2.2.2.2.2]) rfl ⟨gm,mo,rfl,M8.out,E6.out⟩
end Go.Proofs.YtpddanmnlkcdpaaGreatDoor.Pe


namespace Go.Proofs.YtpddanmnlkcdpaaGreatDoor.Pe
open Go.RowKit
open Kp
open In (Ints OwnI)
open Ap (KeepE keepE_own)
open Ls (lowL)
open St (markT markT_any)
structure Chg (lo hi:Nat) (w w':World):Prop where
 os:w'.os=w.os
 tape:w'.tape=w.tape
 output:w'.output=w.output
 size:w.heap.size<=w'.heap.size
 block:∀ k,k<w.heap.size->(k<lo∨hi<=k)->w'.heap[k]? = w.heap[k]?
theorem Chg.refl (lo hi:Nat) (w:World):Chg lo hi w w:=⟨rfl,rfl,rfl,Nat.le_refl _,fun _ _ _=>rfl⟩
theorem Chg.call {lo hi:Nat} {w w1 w2:World} (h:Chg lo hi w w1) (hb:Below w1.heap.size w1 w2):Chg lo hi w w2 :=
 ⟨hb.os.trans h.os,hb.tape.trans h.tape,hb.output.trans h.output,Nat.le_trans h.size hb.size,fun k hk ho=>(hb.block k (Nat.lt_of_lt_of_le hk h.size)).trans (h.block k hk ho)⟩
theorem Chg.set {lo hi g i:Nat} {w w1:World} (h:Chg lo hi w w1) (hl:lo<=g) (hh:g<hi) (v:Value):Chg lo hi w (w1.setCell ⟨g,i,none⟩ v) :=
 ⟨h.os,h.tape,h.output,by simp;exact h.size,fun k hk ho=>by rw[heap_setCell_other w1 _ k v (by show k≠g;omega)];exact h.block k hk ho⟩
theorem Chg.grown {lo hi:Nat} {row:Option Nat} {w w1 w2:World} (h:Chg lo hi w w1) (hg:w1.grownBy w2 row) (hr:∀ g,row=some g->lo<=g/\g<hi):Chg lo hi w w2:=by
 obtain⟨h1,h2,h3,h4,h5⟩:=hg
 refine⟨h1.trans h.os,h2.trans h.tape,h3.trans h.output,Nat.le_trans h.size h4,fun k hk ho=>(h5 k (Nat.lt_of_lt_of_le hk h.size) (fun e=>?_)).trans (h.block k hk ho)⟩
 have:=hr k e.symm
 omega
theorem Chg.below {lo hi B:Nat} {w0 w w':World} (hb:Below B w0 w) (h:Chg lo hi w w') (hl:B<=lo) (hB:B<=w.heap.size):Below B w0 w' :=
 ⟨h.os.trans hb.os,h.tape.trans hb.tape,h.output.trans hb.output,Nat.le_trans hb.size h.size,fun k hk=>(h.block k (by omega) (by omega)).trans (hb.block k hk)⟩
theorem iset_mid (k i:Nat) (l:List Int) (h:i<l.length):(In.mmid l k i).set i ((k+i:Nat):Int)=In.mmid l k (i+1):=In.mmid_next l k i h
theorem ownI_set {W:World} {base g n cap:Nat} {l:List Int} {i:Nat} (h:OwnI W base (.slice (some ⟨g,0,none⟩) n cap) l) (hn:l.length=n) (x:Int):OwnI (W.setCell ⟨g,i,none⟩ (.int .i64 x)) base (.slice (some ⟨g,0,none⟩) n cap) (l.set i x):=by
 unfold OwnI at h ⊢
 rw[List.length_set,List.map_set]
 rw[hn]at h ⊢
 exact own_set h _
theorem markI_from (g n c k base:Nat) (l:List Int) (w:World) (h:OwnI w base (.slice (some ⟨g,0,none⟩) n c) l) (hln:l.length=n) (hn:n<=1048576) (hk:k<=1099511627776) :
  Calls Tryz.prog 82 #[.slice (some ⟨g,0,none⟩) n c,.int .i64 k] w fun e w'=>e=.returned (.int .i64 ((k+n:Nat):Int))/\OwnI w' base (.slice (some ⟨g,0,none⟩) n c) (In.marks k n)/\w.grownBy w' (some g):=by
 have HS:=hideK h
 have HLN:=hideK hln
 clear h hln
 go_enter Tryz.func82,Tryz.ntmps82
 go_wp2_with fail
 go_loopw [5,1] (fun i kv wr=>∃ j:Nat,i=.int .i64 j/\kv=.int .i64 ((k+j:Nat):Int)/\j<=n/\OwnI wr base (.slice (some ⟨g,0,none⟩) n c) (In.mmid l k j)/\w.grownBy wr (some g)) (fun i _ _=>n-(intOf i).toNat)
 case atStart=>exact⟨0,rfl,rfl,by omega,by rw[In.mmid_zero];exact HS.out,Tr.grown_refl _ _⟩
 case round =>
  obtain⟨j,rfl,rfl,hj,h1,ha⟩:=hrel
  have G1:=hideK h1
  have GA:=hideK ha
  clear h1 ha
  by_cases hlt:j<n
  ·have hjl:j<l.length:=by rw[HLN.out];exact hlt
   have hlt':(j:Int)<(n:Int):=by omega
   have HM:=hideK (iset_mid k j l hjl)
   have HL:=hideK (In.mmid_length l k j (by omega))
   have hml:(In.mmid l k j).length=n:=by rw[HL.out,HLN.out]
   obtain⟨v0,ce,cf⟩:∃ v,wr.cell? ⟨g,j,none⟩=some (.int .i64 v)/\wr.frozen? ⟨g,j,none⟩=false:=by
    rcases G1.out.split with⟨h,_⟩|⟨g',cap',hv,_,_,ho⟩
    ·cases h
    ·obtain rfl:g=g':=by simp at hv;exact hv.1
     exact⟨_,ho.cell (j:=j) (by omega),ho.frozen j⟩
   have N1:Hid (OwnI (wr.setCell ⟨g,j,none⟩ (.int .i64 ((k+j:Nat):Int))) base (.slice (some ⟨g,0,none⟩) n c) (In.mmid l k (j+1))):=by
    unfold Hid
    rw[<-HM.out]
    exact ownI_set G1.out hml _
   have N2:Hid (w.grownBy (wr.setCell ⟨g,j,none⟩ (.int .i64 ((k+j:Nat):Int))) (some g)):=by
    obtain⟨a1,a2,a3,a4,a5⟩:=GA.out
    exact⟨a1,a2,a3,by simp;exact a4,fun q hq hne=>by rw[heap_setCell_other wr _ q _ (by exact fun e=>hne (by rw[e]))];exact a5 q hq hne⟩
   clear HM HL hml
   generalize hkk:k+j=kk at N1 N2 ⊢
   have hk2:kk+1=k+(j+1):=by omega
   have hk3:kk<=2199023255552:=by omega
   clear hkk
   have HK2:=hideK hk2
   clear hk2
   go_wp2_with fail
   go_roundw
   case rel=>exact⟨j+1,by go_num,by rw[<-HK2.out];go_num,by omega,N1.out,N2.out⟩
   case measure=>simp[intOf];omega
  ·obtain rfl:j=n:=by omega
   have HE:Hid (In.mmid l k j=In.marks k j):=by
    have:=HLN.out
    subst this
    exact In.mmid_all l k
   have N1:Hid (OwnI wr base (.slice (some ⟨g,0,none⟩) j c) (In.marks k j)):=by rw[<-HE.out];exact G1.out
   have hltD:decide ((j:Int)<(j:Int))=false:=by simp
   generalize hkk:k+j=kk
   have HKK:=hideK hkk
   clear hkk
   go_wp2_with fail
   go_ret
   exact⟨by rw[HKK.out];rfl,N1.out,GA.out⟩
theorem markI_nil (a:Option Addr) (c k:Nat) (w:World) :
  Calls Tryz.prog 82 #[.slice a 0 c,.int .i64 k] w fun e w'=>e=.returned (.int .i64 (k:Int))/\w'=w:=by
 go_enter Tryz.func82,Tryz.ntmps82
 go_wp2_with fail
 go_loopw [5,1] (fun i kv wr=>i=.int .i64 0/\kv=.int .i64 (k:Int)/\wr=w) (fun _ _ _=>0)
 case atStart=>exact⟨rfl,rfl,rfl⟩
 case round =>
  obtain⟨rfl,rfl,hw⟩:=hrel
  subst hw
  go_wp2_with fail
  go_ret
  exact⟨rfl,rfl⟩
theorem markI_own (k base:Nat) (v:Value) (l:List Int) (w:World) (h:OwnI w base v l) (hn:l.length<=1048576) (hk:k<=1099511627776) :
  Calls Tryz.prog 82 #[v,.int .i64 k] w fun e w'=>e=.returned (.int .i64 ((k+l.length:Nat):Int))/\OwnI w' base v (In.marks k l.length)/\w.grownBy w' v.ownBlock:=by
 rcases h.split with⟨rfl,rfl⟩|⟨g,cap,rfl,_,_,_⟩
 ·refine(markI_nil none 0 k w).mono ?_
  rintro e w' ⟨rfl,rfl⟩
  exact⟨rfl,OwnI.nil _ _,Tr.grown_refl _ _⟩
 ·exact markI_from g _ cap k base l w h rfl hn hk
end Go.Proofs.YtpddanmnlkcdpaaGreatDoor.Pe


/- The laws' marks in a row of others. -/
namespace Go.Proofs.YtpddanmnlkcdpaaGreatDoor.Pe
open Go.RowKit
open Kp
open In (Ints OwnI)
open Ap (KeepE keepE_own)
open Ls (lowL)
open St (markT markT_any)
def mkO (k:Nat) (o:Oth):Oth:=⟨markT k,In.marks (k+1) o.has.length,((k+1+o.has.length:Nat):Int),((k+2+o.has.length:Nat):Int),((k+3+o.has.length:Nat):Int)⟩
def mkN (k:Nat) (o:Oth):Nat:=k+4+o.has.length
def mkL:Nat->List Oth->List Oth
 |_,[]=>[]
 |k,o :: l=>mkO k o :: mkL (mkN k o) l
def mkE:Nat->List Oth->Nat
 |k,[]=>k
 |k,o :: l=>mkE (mkN k o) l
theorem mkL_length:∀ (l:List Oth) (k:Nat),(mkL k l).length=l.length
 |[],_=>rfl
 |o :: l,k=>by rw[mkL,List.length_cons,List.length_cons,mkL_length l]
theorem mkE_append:∀ (l l':List Oth) (k:Nat),mkE k (l++l')=mkE (mkE k l) l'
 |[],_,_=>rfl
 |o :: l,l',k=>by rw[List.cons_append,mkE,mkE,mkE_append l]
theorem mkL_append:∀ (l l':List Oth) (k:Nat),mkL k (l++l')=mkL k l++mkL (mkE k l) l'
 |[],_,_=>rfl
 |o :: l,l',k=>by rw[List.cons_append,mkL,mkL,mkE,mkL_append l];rfl
theorem mkE_le:∀ (l:List Oth) (k:Nat),k<=mkE k l
 |[],k=>Nat.le_refl _
 |o :: l,k=>by
  have:=mkE_le l (mkN k o)
  rw[mkE]
  unfold mkN at this ⊢
  omega
theorem mkE_take {m:List MO} {j k:Nat} (h:j<m.length):mkE k (oths (m.take (j+1)))=mkN (mkE k (oths (m.take j))) m[j].1:=by rw[oths_take h,mkE_append];rfl
theorem mkE_take_le {m:List MO} (k j:Nat):mkE k (oths (m.take j))<=mkE k (oths m):=by
 have h:oths m=oths (m.take j)++oths (m.drop j):=by
  unfold oths
  rw[<-List.map_append,List.take_append_drop]
 rw[h,mkE_append]
 exact mkE_le _ _
theorem mkE_bd:∀ (l:List Oth) (k:Nat),mkE k l<=k+4*l.length+tot l
 |[],k=>by
  unfold mkE
  omega
 |o :: l,k=>by
  have h:=mkE_bd l (mkN k o)
  rw[mkE,List.length_cons]
  have ht:tot (o :: l)=cost o+tot l:=by unfold tot;rw[List.map_cons,List.sum_cons]
  rw[ht]
  unfold mkN at h ⊢
  unfold cost
  omega
theorem cellsO_set4:∀ (m:List MO) (i:Nat) (x:MO) (h:i<m.length),x.2=m[i].2->cellsO (m.set i x)=((((cellsO m).set (i*5) (.string x.1.name)).set (i*5+2) (.int .i64 x.1.asked)).set (i*5+3) (.int .i64 x.1.age)).set (i*5+4) (.int .i64 x.1.strikes)
 |y :: m,0,x,_,e=>by
  have e':x.2=y.2:=e
  rw[List.set_cons_zero,cellsO,cellsO,e']
  rfl
 |y :: m,i+1,x,h,e=>by
  rw[List.set_cons_succ,cellsO,cellsO,cellsO_set4 m i x (Nat.lt_of_succ_lt_succ h) e,show (i+1)*5=i*5+5 by omega,show i*5+5+2=(i*5+2)+5 by omega,show i*5+5+3=(i*5+3)+5 by omega,show i*5+5+4=(i*5+4)+5 by omega]
  rfl
def KeepO (w w':World):Prop:=∀ (k:Nat) (cs:Array Value) (T:TypeId),w.heap[k]? = some (.cells cs T (0,0))->T≠86->T≠2->w'.heap[k]? = some (.cells cs T (0,0))
theorem KeepO.refl (w:World):KeepO w w:=fun _ _ _ h _ _=>h
theorem KeepO.call {w w1 w2:World} (h:KeepO w w1) (hb:Below w1.heap.size w1 w2):KeepO w w2:=fun k cs T hk h1 h2=>(hb.block k (lt_rowK (h k cs T hk h1 h2))).trans (h k cs T hk h1 h2)
theorem KeepO.after {w w1 w2:World} (hb:Below w.heap.size w w1) (h:KeepO w1 w2):KeepO w w2:=fun k cs T hk h1 h2=>h k cs T ((hb.block k (lt_rowK hk)).trans hk) h1 h2
theorem KeepO.set {w w1:World} {g i:Nat} {cur:Array Value} (h:KeepO w w1) (hg:w1.heap[g]? = some (.cells cur 86 (0,0))) (v:Value):KeepO w (w1.setCell ⟨g,i,none⟩ v)/\∃ cur',(w1.setCell ⟨g,i,none⟩ v).heap[g]? = some (.cells cur' 86 (0,0)) :=
 ⟨fun k cs T hk h1 h2=>(heap_setCell_other w1 ⟨g,i,none⟩ k v (by exact fun e=>ty_ne (h k cs T hk h1 h2) hg h1 e)).trans (h k cs T hk h1 h2),_,heap_setCell_same w1 g i _ _ v hg⟩
theorem KeepO.grown {w w1 w2:World} {row:Option Nat} (h:KeepO w w1) (hg:w1.grownBy w2 row) (hr:∀ g,row=some g->∃ cur,w1.heap[g]? = some (.cells cur 2 (0,0))):KeepO w w2:=fun k cs T hk h1 h2=>by
 have hk1:=h k cs T hk h1 h2
 refine(hg.block k (lt_rowK hk1) (fun e=>?_)).trans hk1
 obtain⟨cur,hc⟩:=hr k e.symm
 exact ty_ne hk1 hc h2 rfl
def InB (lo hi:Nat) (v:Value) (m:List MO):Prop:=(∀ g,v.ownBlock=some g->lo<=g/\g<hi)/\∀ x∈m,∀ g,x.2.ownBlock=some g->lo<=g/\g<hi
def midM (k:Nat) (m:List MO) (j:Nat):List MO:=(List.zip (mkL k (oths (m.take j))) ((m.take j).map (·.2)))++m.drop j
theorem midM_zero (k:Nat) (m:List MO):midM k m 0=m:=by unfold midM;simp
theorem midM_length (k:Nat) (m:List MO) (j:Nat) (h:j<=m.length):(midM k m j).length=m.length:=by
 unfold midM
 rw[List.length_append,List.length_zip,mkL_length,oths_length,List.length_map,List.length_take,List.length_drop]
 omega
theorem midM_all (k:Nat) (m:List MO):oths (midM k m m.length)=mkL k (oths m)/\(midM k m m.length).map (·.2)=m.map (·.2):=by
 unfold midM
 rw[List.take_length,List.drop_length,List.append_nil]
 constructor
 ·unfold oths
  rw[List.map_fst_zip (by rw[mkL_length,List.length_map,List.length_map];exact Nat.le_refl _)]
 ·rw[List.map_snd_zip (by rw[mkL_length,oths_length,List.length_map];exact Nat.le_refl _)]
theorem midM_at (k:Nat) (m:List MO) (j:Nat) (h:j<m.length):(midM k m j)[j]'(by rw[midM_length k m j (by omega)];exact h)=m[j]:=by
 have hl:(List.zip (mkL k (oths (m.take j))) ((m.take j).map (·.2))).length=j:=by
  rw[List.length_zip,mkL_length,oths_length,List.length_map,List.length_take]
  omega
 unfold midM
 rw[List.getElem_append_right (by omega)]
 simp only[hl,Nat.sub_self]
 rw[List.getElem_drop]
 rfl
theorem midM_next (k:Nat) (m:List MO) (j:Nat) (h:j<m.length):(midM k m j).set j (mkO (mkE k (oths (m.take j))) m[j].1,m[j].2)=midM k m (j+1):=by
 have hl:(List.zip (mkL k (oths (m.take j))) ((m.take j).map (·.2))).length=j:=by
  rw[List.length_zip,mkL_length,oths_length,List.length_map,List.length_take]
  omega
 unfold midM
 rw[List.set_append,if_neg (by omega),hl,Nat.sub_self,List.drop_eq_getElem_cons h,List.set_cons_zero,oths_take h,mkL_append,List.take_succ_eq_append_getElem h,List.map_append,List.zip_append (by rw[mkL_length,oths_length,List.length_map]),List.append_assoc]
 rfl
theorem apart_snd {m m':List MO} (h:m'.map (·.2)=m.map (·.2)) (ha:Apart m):Apart m':=by
 unfold Apart at ha ⊢
 have:(m.map (·.2)).Pairwise (fun (x y:Value)=>∀ g,x.ownBlock=some g->y.ownBlock≠some g):=List.pairwise_map.2 ha
 rw[<-h]at this
 exact List.pairwise_map.1 this
theorem inB_snd {lo hi:Nat} {v:Value} {m m':List MO} (h:m'.map (·.2)=m.map (·.2)) (hb:InB lo hi v m):InB lo hi v m':=⟨hb.1,fun x hx g hg=>by
 have:x.2∈m.map (·.2):=by rw[<-h];exact List.mem_map_of_mem hx
 obtain⟨y,hy,he⟩:=List.mem_map.1 this
 exact hb.2 y hy g (by rw[he];exact hg)⟩
structure RowM (W:World) (lo hi:Nat) (v:Value) (m:List MO):Prop where
 row:OwnO W lo v m
 has:Hass W lo m
 ap:Apart m
 inb:InB lo hi v m
theorem hass_grown {W W':World} {lo j:Nat} {m:List MO} {x:MO} (h:Hass W lo m) (ha:Apart m) (hj:j<m.length) (hg:W.grownBy W' m[j].2.ownBlock) (hn:OwnI W' lo x.2 x.1.has):Hass W' lo (m.set j x):=by
 intro y hy
 obtain⟨i,hi,rfl⟩:=List.getElem_of_mem hy
 rw[List.length_set]at hi
 by_cases e:j=i
 ·subst e
  rw[List.getElem_set_self]
  exact hn
 ·rw[List.getElem_set_ne e]
  have hne:∀ g,m[i].2.ownBlock=some g->m[j].2.ownBlock≠some g:=fun g h1 h2=>by
   have hp:=List.pairwise_iff_getElem.1 ha
   rcases Nat.lt_or_gt_of_ne e with hlt|hgt
   ·exact hp j i hj hi hlt g h2 h1
   ·exact hp i j hi hj hgt g h1 h2
  obtain⟨hl,ho⟩:=h m[i] (List.getElem_mem hi)
  refine⟨hl,?_⟩
  rcases ho with ho|⟨g,cap,cur,hv,hgb,hb,rest⟩
  ·exact .inl ho
  ·refine .inr ⟨g,cap,cur,hv,hgb,?_,rest⟩
   rw[hg.block g (lt_rowK hb) (fun e=>hne g (by rw[hv];rfl) e.symm)]
   exact hb
end Go.Proofs.YtpddanmnlkcdpaaGreatDoor.Pe


namespace Go.Proofs.YtpddanmnlkcdpaaGreatDoor.Pe
open Go.RowKit
open Kp
open In (Ints OwnI)
open Ap (KeepE keepE_own)
open Ls (lowL)
open St (markT markT_any)
theorem own_cell {W:World} {base g k n cap p:Nat} {e:TypeId} {xs:List Value} {u:Value} (h:W.ownsRow base e k (.slice (some ⟨g,0,none⟩) n cap) n xs) (hx:xs[p]? = some u):W.cell? ⟨g,p,none⟩=some u/\W.frozen? ⟨g,p,none⟩=false:=by
 obtain⟨hl,h⟩:=h
 rcases h with⟨h,_⟩|⟨g',cap',cur,hv,hg,hb,h1,h2,h3,h4⟩
 ·cases h
 ·obtain rfl:g=g':=by simp at hv;exact hv.1
  have hp:p<n*k:=by
   have:=(List.getElem?_eq_some_iff.1 hx).1
   omega
  rw[<-h4,List.getElem?_take_of_lt hp,Array.getElem?_toList]at hx
  exact⟨(cell_of_row W g p _ _ _ hb).trans hx,frozen_of_row W g p _ _ hb⟩
theorem own_grown {W W':World} {base g k n cap:Nat} {e:TypeId} {xs:List Value} {row:Option Nat} (h:W.ownsRow base e k (.slice (some ⟨g,0,none⟩) n cap) n xs) (hg:W.grownBy W' row) (hr:row≠some g):W'.ownsRow base e k (.slice (some ⟨g,0,none⟩) n cap) n xs:=by
 obtain⟨hl,h⟩:=h
 refine⟨hl,?_⟩
 rcases h with h|⟨g',cap',cur,hv,hgb,hb,rest⟩
 ·exact .inl h
 ·obtain rfl:g=g':=by simp at hv;exact hv.1
  exact .inr ⟨g,cap',cur,hv,hgb,(hg.block g (lt_rowK hb) (fun e=>hr e.symm)).trans hb,rest⟩
theorem own_blk {W:World} {base g k n cap:Nat} {e:TypeId} {xs:List Value} (h:W.ownsRow base e k (.slice (some ⟨g,0,none⟩) n cap) n xs):∃ cur,W.heap[g]? = some (.cells cur e (0,0)):=by
 obtain⟨_,h⟩:=h
 rcases h with⟨h,_⟩|⟨g',cap',cur,hv,_,hb,_⟩
 ·cases h
 ·obtain rfl:g=g':=by simp at hv;exact hv.1
  exact⟨cur,hb⟩
theorem own_down {w w':World} {base e k n:Nat} {v:Value} {xs:List Value} (h:w.ownsRow base e k v n xs) (b:Below w.heap.size w w'):w'.ownsRow base e k v n xs:=by
 obtain⟨hl,h⟩:=h
 refine⟨hl,?_⟩
 rcases h with h|⟨g,cap,cur,hv,hg,hb,rest⟩
 ·exact .inl h
 ·exact .inr ⟨g,cap,cur,hv,hg,by rw[b.block g (lt_rowK hb)];exact hb,rest⟩
theorem ownI_blk {W:World} {base g:Nat} {v:Value} {l:List Int} (h:OwnI W base v l) (hg:v.ownBlock=some g):∃ cur,W.heap[g]? = some (.cells cur 2 (0,0)):=by
 obtain⟨_,h⟩:=h
 rcases h with⟨rfl,_⟩|⟨g',cap',cur,rfl,_,hb,_⟩
 ·simp[Value.ownBlock]at hg
 ·simp[Value.ownBlock]at hg
  subst hg
  exact⟨cur,hb⟩
theorem mark_round {W w1 w3:World} {lo hi g n cap j kj:Nat} {m:List MO} (h:RowM W lo hi (.slice (some ⟨g,0,none⟩) n cap) m) (hn:m.length=n) (hj:j<m.length) (hb1:Below W.heap.size W w1)
  (ho3:OwnI w3 lo m[j].2 (In.marks (kj+1) m[j].1.has.length)) (hg3:(w1.setCell ⟨g,j*5,none⟩ (.string (markT kj))).grownBy w3 m[j].2.ownBlock) :
  w3.ownsRow lo 86 5 (.slice (some ⟨g,0,none⟩) n cap) n ((cellsO m).set (j*5) (.string (markT kj))) /\
  RowM (((w3.setCell ⟨g,j*5+2,none⟩ (.int .i64 ((kj+1+m[j].1.has.length:Nat):Int))).setCell ⟨g,j*5+3,none⟩ (.int .i64 ((kj+2+m[j].1.has.length:Nat):Int))).setCell ⟨g,j*5+4,none⟩ (.int .i64 ((kj+3+m[j].1.has.length:Nat):Int))) lo hi (.slice (some ⟨g,0,none⟩) n cap) (m.set j (mkO kj m[j].1,m[j].2)):=by
 have R0:W.ownsRow lo 86 5 (.slice (some ⟨g,0,none⟩) n cap) n (cellsO m):=by have:=h.row;unfold OwnO at this;rwa[hn]at this
 have R1:=own_down R0 hb1
 have R2:=own_set (p:=j*5) R1 (.string (markT kj))
 obtain⟨cur1,hc1⟩:=own_blk R1
 obtain⟨cur2,hc2⟩:=own_blk R2
 have he:(2:TypeId)≠86:=by decide
 have H1:Hass w1 lo m:=h.has.below hb1
 have H2:Hass (w1.setCell ⟨g,j*5,none⟩ (.string (markT kj))) lo m:=H1.keep (keepE_set hc1 _ _) he
 have hne:m[j].2.ownBlock≠some g:=fun e=>by
  obtain⟨cur,hc⟩:=ownI_blk (H2 m[j] (List.getElem_mem hj)) e
  rw[hc2]at hc
  simp at hc
 have R3:=own_grown R2 hg3 hne
 have R4:=own_set (p:=j*5+2) R3 (.int .i64 ((kj+1+m[j].1.has.length:Nat):Int))
 have R5:=own_set (p:=j*5+3) R4 (.int .i64 ((kj+2+m[j].1.has.length:Nat):Int))
 have R6:=own_set (p:=j*5+4) R5 (.int .i64 ((kj+3+m[j].1.has.length:Nat):Int))
 obtain⟨cur3,hc3⟩:=own_blk R3
 obtain⟨cur4,hc4⟩:=own_blk R4
 obtain⟨cur5,hc5⟩:=own_blk R5
 have H3:Hass w3 lo (m.set j (mkO kj m[j].1,m[j].2)):=hass_grown H2 h.ap hj hg3 ho3
 have hsnd:(m.set j (mkO kj m[j].1,m[j].2)).map (·.2)=m.map (·.2):=by
  rw[List.map_set]
  apply List.ext_getElem?
  intro i
  rw[List.getElem?_set]
  split
  ·rename_i e
   subst e
   simp[hj]
  ·rfl
 refine⟨R3,?_,?_,apart_snd hsnd h.ap,inB_snd hsnd h.inb⟩
 ·unfold OwnO
  rw[List.length_set,hn,cellsO_set4 m j (mkO kj m[j].1,m[j].2) hj rfl]
  exact R6
 ·exact((H3.keep (keepE_set hc3 _ _) he).keep (keepE_set hc4 _ _) he).keep (keepE_set hc5 _ _) he
theorem markOs_any (k lo hi:Nat) (v:Value) (m:List MO) (w:World) (h:RowM w lo hi v m) (hn:m.length<=1048576) (hsm:∀ x∈m,x.1.has.length<=1048576) (h0:0<k) (hk:mkE k (oths m)<=1099511627776) :
  Calls Tryz.prog 43 #[v,.int .i64 k] w fun e w'=>e=.returned (.int .i64 (mkE k (oths m):Nat))/\(∃ m',oths m'=mkL k (oths m)/\m'.map (·.2)=m.map (·.2)/\RowM w' lo hi v m')/\Chg lo hi w w'/\KeepO w w':=by
 have HS:=hideK h
 obtain⟨a,cap,hv,_,_⟩:=h.row.one
 subst hv
 have HSM:=hideK hsm
 have HKE:=hideK hk
 generalize hnn:m.length=n at hn ⊢
 rw[hnn]at HS
 have HN:=hideK hnn
 clear h hsm hk hnn
 have HEND:Hid (∀ (W:World),RowM W lo hi (.slice a n cap) (midM k m n)->∃ m',oths m'=mkL k (oths m)/\m'.map (·.2)=m.map (·.2)/\RowM W lo hi (.slice a n cap) m'):=fun W hW=>⟨midM k m n,by rw[<-HN.out];exact(midM_all k m).1,by rw[<-HN.out];exact(midM_all k m).2,hW⟩
 have HEE:Hid (mkE k (oths (m.take n))=mkE k (oths m)):=by unfold Hid;rw[List.take_of_length_le (by rw[HN.out];exact Nat.le_refl _)]
 go_enter Tryz.func43,Tryz.ntmps43
 go_wp2_with fail
 go_loopw [5,1] (fun i kv wr=>∃ j kj:Nat,i=.int .i64 j/\kv=.int .i64 (kj:Int)/\j<=n/\kj=mkE k (oths (m.take j))/\RowM wr lo hi (.slice a n cap) (midM k m j)/\Chg lo hi w wr/\KeepO w wr) (fun i _ _=>n-(intOf i).toNat)
 case atStart=>exact⟨0,k,rfl,rfl,Nat.zero_le _,rfl,by rw[midM_zero];exact HS.out,Chg.refl _ _ _,KeepO.refl _⟩
 case round =>
  obtain⟨j,kj,rfl,rfl,hj,hkj,hrow,hch,hko⟩:=hrel
  have KO:=hideK hko
  have R:=hideK hrow
  have CH:=hideK hch
  have HKJ:=hideK hkj
  have hkb:kj<=1099511627776:=by rw[hkj];exact Nat.le_trans (mkE_take_le k j) HKE.out
  have hk0:0<kj:=by rw[hkj];exact Nat.lt_of_lt_of_le h0 (mkE_le _ _)
  clear hrow hch hkj hko
  by_cases hlt:j<n
  ·have hlt':(j:Int)<(n:Int):=by omega
   have hjl:j<m.length:=by rw[HN.out];exact hlt
   have hml:(midM k m j).length=n:=by rw[midM_length k m j (by omega),HN.out]
   have hjm:j<(midM k m j).length:=by omega
   have HAT:=hideK (midM_at k m j hjl)
   obtain⟨g,cp,hv,hlo,hgz,_,hcc⟩:=R.out.row.cells (by omega)
   obtain⟨rfl,rfl⟩:a=some ⟨g,0,none⟩/\cap=cp:=by simp at hv;exact⟨hv.1,hv.2.2⟩
   clear hv
   have hghi:=(R.out.inb.1 g rfl).2
   have hF:=hcc j hjm
   rw[HAT.out]at hF
   have HRD:Hid (∀ (w1 w3:World),Below wr.heap.size wr w1->OwnI w3 lo m[j].2 (In.marks (kj+1) m[j].1.has.length)->(w1.setCell ⟨g,j*5,none⟩ (.string (markT kj))).grownBy w3 m[j].2.ownBlock->w3.ownsRow lo 86 5 (.slice (some ⟨g,0,none⟩) n cap) n ((cellsO (midM k m j)).set (j*5) (.string (markT kj)))/\RowM (((w3.setCell ⟨g,j*5+2,none⟩ (.int .i64 ((kj+1+m[j].1.has.length:Nat):Int))).setCell ⟨g,j*5+3,none⟩ (.int .i64 ((kj+2+m[j].1.has.length:Nat):Int))).setCell ⟨g,j*5+4,none⟩ (.int .i64 ((kj+3+m[j].1.has.length:Nat):Int))) lo hi (.slice (some ⟨g,0,none⟩) n cap) (midM k m (j+1))):=fun w1 w3 h1 h2 h3=>by
    have hq:=mark_round (W:=wr) (w1:=w1) (w3:=w3) (j:=j) (kj:=kj) R.out hml hjm h1 (by rw[HAT.out];exact h2) (by rw[HAT.out];exact h3)
    rw[HAT.out,HKJ.out,midM_next k m j hjl,<-HKJ.out]at hq
    exact hq
   have HX2:Hid (∀ (w1:World),Below wr.heap.size wr w1->OwnI (w1.setCell ⟨g,j*5,none⟩ (.string (markT kj))) lo m[j].2 m[j].1.has/\(w1.setCell ⟨g,j*5,none⟩ (.string (markT kj))).cell? ⟨g,j*5+1,none⟩=some m[j].2):=fun w1 h1=>by
    have hr:=R.out.row.below h1
    obtain⟨cur,hc⟩:=hr.blk
    refine⟨?_,?_⟩
    ·have:=(R.out.has.below h1).keep (keepE_set hc (j*5) (.string (markT kj))) (by decide) ((midM k m j)[j]) (List.getElem_mem hjm)
     rw[HAT.out]at this
     exact this
    ·have hq:=own_set (p:=j*5) (show w1.ownsRow lo 86 5 (.slice (some ⟨g,0,none⟩) n cap) n (cellsO (midM k m j)) by have:=hr;unfold OwnO at this;rwa[hml]at this) (.string (markT kj))
     refine(own_cell hq ?_).1
     rw[List.getElem?_set_ne (by omega),(cellsO_at (midM k m j) j hjm).2.1,HAT.out]
   have HCL:Hid (∀ (W:World) (xs:List Value),xs=(cellsO (midM k m j)).set (j*5) (.string (markT kj))->W.ownsRow lo 86 5 (.slice (some ⟨g,0,none⟩) n cap) n xs->W.cell? ⟨g,j*5+2,none⟩=some (.int .i64 m[j].1.asked)/\W.cell? ⟨g,j*5+3,none⟩=some (.int .i64 m[j].1.age)/\W.cell? ⟨g,j*5+4,none⟩=some (.int .i64 m[j].1.strikes)/\∀ o,W.frozen? ⟨g,o,none⟩=false):=fun W xs hxs hW=>by
    have hc:=cellsO_at (midM k m j) j hjm
    rw[HAT.out]at hc
    obtain⟨cur,hb⟩:=own_blk hW
    exact⟨(own_cell hW (by rw[hxs,List.getElem?_set_ne (by omega)];exact hc.2.2.1)).1,(own_cell hW (by rw[hxs,List.getElem?_set_ne (by omega)];exact hc.2.2.2.1)).1,(own_cell hW (by rw[hxs,List.getElem?_set_ne (by omega)];exact hc.2.2.2.2)).1,fun o=>frozen_of_row W g o _ _ hb⟩
   have HNX:=hideK (mkE_take (k:=k) hjl)
   rw[<-HKJ.out]at HNX
   have hkx:=HSM.out m[j] (List.getElem_mem hjl)
   have HMI:=hideK (fun W (hW:OwnI W lo m[j].2 m[j].1.has)=>markI_own (kj+1) lo m[j].2 m[j].1.has W hW hkx (by have:=Nat.le_trans (mkE_take_le (m:=m) k (j+1)) HKE.out;rw[HNX.out]at this;unfold mkN at this;omega))
   have HBK:Hid (∀ q,m[j].2.ownBlock=some q->lo<=q/\q<hi):=fun q hq=>R.out.inb.2 ((midM k m j)[j]) (List.getElem_mem hjm) q (by rw[HAT.out];exact hq)
   obtain⟨av,cv,hxv,_,_⟩:=(show OwnI wr lo m[j].2 m[j].1.has by have:=R.out.has ((midM k m j)[j]) (List.getElem_mem hjm);rw[HAT.out]at this;exact this).ints
   unfold mkN at HNX
   obtain⟨d0,d1,d2,d3,d4⟩:=hF
   have hfz:=R.out.row.frozen (j*5)
   generalize m[j].1.name=nm at d0
   generalize m[j].1.has=l at HRD HX2 HMI HNX hkx hxv
   generalize m[j].1.asked=q1 at d2 HCL
   generalize m[j].1.age=q2 at d3 HCL
   generalize m[j].1.strikes=q3 at d4 HCL
   generalize m[j].2=xv at d1 HRD HX2 HMI HBK hxv
   subst hxv
   generalize hll:l.length=ll at HRD HMI HNX hkx d1 HX2 HBK
   have hz4:Hid (mkE k (oths (m.take (j+1)))<=1099511627776):=Nat.le_trans (mkE_take_le k (j+1)) HKE.out
   have hkl:kj+4+ll<=1099511627776:=by rw[<-HNX.out];exact hz4.out
   clear hcc hml HAT hll hz4
   have HMT:=hideK (markT_any kj wr hk0 hkb)
   go_wp2_with fail
   refine HMT.out.mono ?_
   rintro e w1 ⟨rfl,hb1⟩
   have B1:=hideK hb1
   have y0:=(hb1.cell (p:=⟨g,j*5,none⟩) hgz).trans d0
   have yf:=(hb1.frozen (p:=⟨g,j*5,none⟩) hgz).trans hfz
   obtain⟨hoi,hcell⟩:=HX2.out w1 hb1
   obtain⟨cur1,hcu1⟩:=(R.out.row.below hb1).blk
   have KO1:=hideK ((KO.out.call hb1).set (i:=j*5) hcu1 (.string (markT kj))).1
   have KT1:=hideK (fun q hq=>ownI_blk hoi (g:=q) hq)
   have HM2:=hideK (HMI.out _ hoi)
   have C1:=hideK ((CH.out.call hb1).set (i:=j*5) hlo hghi (.string (markT kj)))
   clear d0 d1 d2 d3 d4 hfz hb1 HMT hoi
   go_upto_region 6 with fail
   have HR1:=hideK (fun w3=>HRD.out w1 w3 B1.out)
   generalize w1.setCell ⟨g,j*5,none⟩ (.string (markT kj))=W2 at HM2 C1 hcell HR1 KO1 KT1 ⊢
   clear y0 yf HRD HX2
   rw[show ((kj+1:Nat):Int)=(kj:Int)+1 by omega]at HM2
   go_wp2_with fail
   refine HM2.out.mono ?_
   rintro e w3 ⟨rfl,ho3,hg3⟩
   obtain⟨hr3,hrm⟩:=HR1.out w3 ho3 hg3
   obtain⟨e2,e3,e4,ef⟩:=HCL.out w3 _ rfl hr3
   have C3:=hideK ((((C1.out.grown hg3 HBK.out).set (i:=j*5+2) hlo hghi (.int .i64 ((kj+1+ll:Nat):Int))).set (i:=j*5+3) hlo hghi (.int .i64 ((kj+2+ll:Nat):Int))).set (i:=j*5+4) hlo hghi (.int .i64 ((kj+3+ll:Nat):Int)))
   have RM:=hideK hrm
   obtain⟨cur3,hcu3⟩:=own_blk hr3
   have ka:=KeepO.grown KO1.out hg3 KT1.out
   obtain⟨kb,cub,hcub⟩:=ka.set (i:=j*5+2) hcu3 (.int .i64 ((kj+1+ll:Nat):Int))
   obtain⟨kc,cuc,hcuc⟩:=kb.set (i:=j*5+3) hcub (.int .i64 ((kj+2+ll:Nat):Int))
   have KO3:=hideK (kc.set (i:=j*5+4) hcuc (.int .i64 ((kj+3+ll:Nat):Int))).1
   clear ka kb kc hcub hcuc hcu3 KO1 KT1
   clear ho3 hg3 hr3 hrm hcell HR1 HCL HM2
   have hs1:((kj+2+ll:Nat):Int)=((kj+1+ll:Nat):Int)+1:=by omega
   have hs2:((kj+3+ll:Nat):Int)=((kj+1+ll:Nat):Int)+1+1:=by omega
   rw[hs1,hs2]at RM C3 KO3
   have hs3:((kj+1+ll:Nat):Int)+1+1+1=((kj+4+ll:Nat):Int):=by omega
   have HS3:=hideK hs3
   have hb9:((kj+1+ll:Nat):Int)<=1099511627776:=by omega
   have hb8:0<=((kj+1+ll:Nat):Int):=by omega
   clear hs1 hs2 hs3
   generalize ((kj+1+ll:Nat):Int)=K1 at RM C3 KO3 HS3 hb8 hb9 ⊢
   go_wp2_with fail
   go_roundw
   case rel=>exact⟨j+1,kj+4+ll,by go_num,by rw[<-HS3.out],by omega,HNX.out.symm,RM.out,C3.out,KO3.out⟩
   case measure=>simp[intOf];omega
  ·obtain rfl:j=n:=by omega
   have HE2:Hid (kj=mkE k (oths m)):=by unfold Hid;rw[HKJ.out,HEE.out]
   have HF:=hideK (HEND.out wr R.out)
   have hltD:decide ((j:Int)<(j:Int))=false:=by simp
   go_wp2_with fail
   go_ret
   exact⟨by rw[<-HE2.out];rfl,HF.out,CH.out,KO.out⟩
end Go.Proofs.YtpddanmnlkcdpaaGreatDoor.Pe


namespace Go.Proofs.YtpddanmnlkcdpaaGreatDoor.Pe
open Go.RowKit
open Kp
open Ls (lowL)
theorem Chg.after {lo hi:Nat} {w w1 w2:World} (hb:Below w.heap.size w w1) (h:Chg lo hi w1 w2):Chg lo hi w w2 :=
 ⟨h.os.trans hb.os,h.tape.trans hb.tape,h.output.trans hb.output,Nat.le_trans hb.size h.size,fun k hk ho=>(h.block k (Nat.lt_of_lt_of_le hk hb.size) ho).trans (hb.block k hk)⟩
theorem RowM.call {W W':World} {lo hi:Nat} {v:Value} {m:List MO} (h:RowM W lo hi v m) (hb:Below W.heap.size W W'):RowM W' lo hi v m:=⟨h.row.below hb,h.has.below hb,h.ap,h.inb⟩
theorem MadeO.rowM {W:World} {base:Nat} {v:Value} {m mo:List MO} (h:MadeO W base v m mo):RowM W base W.heap.size v mo :=
 ⟨h.row,h.has,h.ap,fun _ hg=>World.ownsRow.lt h.row _ hg,fun x hx _ hg=>World.ownsRow.lt (h.has x hx) _ hg⟩
theorem markP_any (z b:Int) (r s:ByteArray) (y:Int) (k lo hi:Nat) (v:Value) (m:List MO) (w:World) (h:RowM w lo hi v m) (hn:m.length<=1048576) (hsm:∀ x∈m,x.1.has.length<=1048576) (h0:0<k) (hk:mkE k (oths m)<=1099511627776) :
  Calls Tryz.prog 12 #[peerV z b r s y v,.int .i64 k] w fun e w'=>e=.returned (.int .i64 (mkE k (oths m):Nat))/\(∃ m',oths m'=mkL k (oths m)/\m'.map (·.2)=m.map (·.2)/\RowM w' lo hi v m')/\Chg lo hi w w'/\KeepO w w':=by
 have C0:=hideK ((Cx.nil w).new (peerO z b r s y v))
 have B0:Hid (Below w.heap.size w (w.alloc (peerO z b r s y v))):=(Below.refl _ _).alloc (Nat.le_refl _) _
 have HM:=hideK (fun W (hW:Below w.heap.size w W)=>markOs_any k lo hi v m W (h.call hW) hn hsm h0 hk)
 obtain⟨a,cap,hv,_,_⟩:=h.row.one
 subst hv
 clear h hsm hk
 generalize mkE k (oths m)=E at HM ⊢
 unfold peerV
 unfold peerO at C0 B0
 go_enter Tryz.func12,Tryz.ntmps12
 go_upto_region 1 with fail
 generalize w.alloc _=W0 at C0 B0 ⊢
 obtain⟨p0,p1,p2,p3,p4,p5⟩:=cellsP6 (C0.out.get 0 rfl)
 go_wp2_with fail
 refine(HM.out _ B0.out).mono ?_
 rintro e w1 ⟨rfl,hm,hc,hko⟩
 have H1:=hideK hm
 have C1:=hideK (Chg.after B0.out hc)
 have KO:=hideK (KeepO.after B0.out hko)
 clear hm hc hko
 go_wp2_with fail
 go_ret
 exact⟨rfl,H1.out,C1.out,KO.out⟩
end Go.Proofs.YtpddanmnlkcdpaaGreatDoor.Pe


/- The program: another one is met. -/
namespace Go.Proofs.YtpddanmnlkcdpaaGreatDoor.Pl
open Go.RowKit
open Kp
open Pe
open Pm
open In (Ints OwnI)
open Go.Proofs.YtpddanmnlkcdpaaGreatDoor.Nm (nameB)
open Ap (KeepE keepE_own)
open Ls (blk_alloc lowL HH hh_keep)
def newO (nm:ByteArray):Oth:=⟨nm,[],0,0,0⟩
def meetO (l:List Oth) (nm:ByteArray):List Oth:=l.take (posN l nm)++[newO nm]++l.drop (posN l nm)
def letterH (nm:ByteArray) (i:Int):Snt:=⟨nm,1,i,⟨#[]⟩,[]⟩
def meetS (fit:Rec->Bool) (s nm:ByteArray):List Snt:=(Kh.sortZ ((allR fit s).1.map (·.1))).map (letterH nm)
noncomputable def meetP (fit:Rec->Bool) (z b:Int) (r s:ByteArray) (y:Int) (l:List Oth) (nm:ByteArray):PO :=
 if 8000<nm.size then ill 2 else if (peerB fit z b r s y l && nameB nm)=false then ill 1 else if hasN l nm=true then ill 7 else if l.length=4 then ill 9 else ⟨z,b,r,s,y,meetO l nm,meetS fit s nm,0⟩
theorem posN_le (l:List Oth) (nm:ByteArray):posN l nm<=l.length:=by
 unfold posN
 exact(List.takeWhile_sublist _).length_le
theorem cellsO_take (m:List MO) (i:Nat) (h:i<=m.length):(cellsO m).take (i*5)=cellsO (m.take i)/\(cellsO m).drop (i*5)=cellsO (m.drop i):=by
 have h1:cellsO m=cellsO (m.take i)++cellsO (m.drop i):=by rw[<-cellsO_append,List.take_append_drop]
 have h2:(cellsO (m.take i)).length=i*5:=by rw[cellsO_length,List.length_take,Nat.min_eq_left h]
 constructor
 ·rw[h1,<-h2,List.take_left]
 ·rw[h1,<-h2,List.drop_left]
theorem cellsO_one:∀ (m:List MO),(∀ x∈m,x.2.oneCell'=true)->∀ u∈cellsO m,u.oneCell'=true
 |[],_,u,hu=>absurd hu List.not_mem_nil
 |x :: m,h,u,hu=>by
  rw[cellsO]at hu
  simp only[List.mem_cons]at hu
  rcases hu with rfl|rfl|rfl|rfl|rfl|hu
  ·rfl
  ·exact h x (List.mem_cons_self ..)
  ·rfl
  ·rfl
  ·rfl
  ·exact cellsO_one m (fun y hy=>h y (List.mem_cons_of_mem _ hy)) u hu
theorem ownI_oneC {W:World} {base:Nat} {v:Value} {l:List Int} (h:OwnI W base v l):v.oneCell'=true:=by
 obtain⟨a,cap,hv,_⟩:=h.ints
 rw[hv]
 rfl
theorem own_ins {W:World} {base i:Nat} {v:Value} {m:List MO} {x:MO} (hi:i<=m.length) (h:W.ownsRow base 86 5 v (m.length+1) ((cellsO m).take (i*5)++five x++(cellsO m).drop (i*5))):OwnO W base v (m.take i++[x]++m.drop i):=by
 unfold OwnO
 rw[cellsO_append,cellsO_append,<-(cellsO_take m i hi).1,<-(cellsO_take m i hi).2,show (m.take i++[x]++m.drop i).length=m.length+1 by rw[List.length_append,List.length_append,List.length_take,List.length_drop];simp;omega]
 exact h
theorem apart_ins {m:List MO} {x:MO} (i:Nat) (ha:Apart m) (hx:x.2.ownBlock=none):Apart (m.take i++[x]++m.drop i):=by
 unfold Apart at ha ⊢
 rw[<-List.take_append_drop i m,List.pairwise_append]at ha
 obtain⟨h1,h2,h3⟩:=ha
 rw[List.append_assoc,List.pairwise_append]
 refine⟨h1,?_,?_⟩
 ·rw[List.singleton_append,List.pairwise_cons]
  exact⟨fun y _ g hg=>(by rw[hx]at hg;cases hg),h2⟩
 ·intro a ha' c hc g hg
  rcases List.mem_cons.1 (by simpa using hc) with rfl|hc
  ·rw[hx];exact fun e=>by cases e
  ·exact h3 a ha' c hc g hg
theorem oths_ins (m:List MO) (x:MO) (i:Nat):oths (m.take i++[x]++m.drop i)=(oths m).take i++[x.1]++(oths m).drop i:=by
 unfold oths
 rw[List.map_append,List.map_append,List.map_take,List.map_drop]
 rfl
def KeepX (W W':World):Prop:=∀ (k:Nat) (cs:Array Value) (T:TypeId),W.heap[k]? = some (.cells cs T (0,0))->T≠78->T≠114->W'.heap[k]? = some (.cells cs T (0,0))
theorem own_keepX {W W':World} {base k n:Nat} {e:TypeId} {v:Value} {xs:List Value} (h:W.ownsRow base e k v n xs) (hk:KeepX W W') (h1:e≠78) (h2:e≠114):W'.ownsRow base e k v n xs:=by
 obtain⟨hl,h⟩:=h
 refine⟨hl,?_⟩
 rcases h with h|⟨g,cap,cur,hv,hg,hb,rest⟩
 ·exact .inl h
 ·exact .inr ⟨g,cap,cur,hv,hg,hk g _ _ hb h1 h2,rest⟩
theorem SendPost.keep {g base:Nat} {x:ML} {u:Value} {e z b:Int} {r s:ByteArray} {y:Int} {vo vs:Value} {m:List ML} {w w':World} (h:SendPost g base x u e z b r s y vo vs m w w') (hg:w.heap[g]? = some (wpB u e z b r s y vo vs)) (ho:OwnL w base vs m):KeepX w w':=fun k cs T hk h1 h2=>by
 obtain⟨v',_,_,h3,_⟩:=h
 unfold wpB at hg
 refine h3 k _ hk (ty_ne hk hg h1) (fun e=>?_)
 obtain⟨cs',hc⟩:=ho.blk e
 exact ty_ne hk hc h2 rfl
structure MS (w:World) (gw ga:Nat) (u:Value) (e z b:Int) (r s:ByteArray) (y:Int) (vo:Value) (mo:List MO) (ui:Value) (il:List Int) (nm:ByteArray) (j:Nat) (vs:Value) (ms:List ML) (W:World):Prop where
 low:Below w.heap.size w W
 gwb:W.heap[gw]? = some (wpB u e z b r s y vo vs)
 gab:W.heap[ga]? = some (poO 0 0 ⟨#[]⟩ ⟨#[]⟩ 0 (.slice none 0 0) (.slice none 0 0) 0)
 orow:OwnO W w.heap.size vo mo
 has:Hass W w.heap.size mo
 srow:OwnL W w.heap.size vs ms
 sm:snts ms=(il.take j).map (letterH nm)
 nl:∀ x∈ms,x.2=.slice none 0 0/\x.1.path=[]
 irow:OwnI W w.heap.size ui il
theorem MS.send {w W W':World} {gw ga:Nat} {u:Value} {e z b:Int} {r s:ByteArray} {y:Int} {vo:Value} {mo:List MO} {ui:Value} {il:List Int} {nm:ByteArray} {j:Nat} {vs:Value} {ms:List ML} (h:MS w gw ga u e z b r s y vo mo ui il nm j vs ms W) (hj:j<il.length) (hgw:w.heap.size<=gw)
  (hs:SendPost gw w.heap.size (letterH nm il[j],.slice none 0 0) u e z b r s y vo vs ms W W'):∃ v',MS w gw ga u e z b r s y vo mo ui il nm (j+1) v' (ms++[(letterH nm il[j],.slice none 0 0)]) W':=by
 have hk:=hs.keep h.gwb h.srow
 obtain⟨v',h1,h2,h3,h4⟩:=hs
 have hga:=h.gab
 unfold poO at hga
 refine⟨v',?_,h1,?_,own_keepX h.orow hk (by decide) (by decide),fun x hx=>own_keepX (h.has x hx) hk (by decide) (by decide),h2,?_,?_,own_keepX h.irow hk (by decide) (by decide)⟩
 ·exact h.low.trans (h4 _ (Nat.le_refl _) hgw)
 ·unfold poO
  exact hk ga _ _ hga (by decide) (by decide)
 ·unfold snts
  have:=h.sm
  unfold snts at this
  rw[List.map_append,this,List.take_add_one,List.getElem?_eq_getElem hj,List.map_append]
  rfl
 ·intro x hx
  rcases List.mem_append.1 hx with hx|hx
  ·exact h.nl x hx
  ·rw[List.mem_singleton.1 hx]
   exact⟨rfl,rfl⟩
theorem pairwise_all {α:Type} {R:α->α->Prop}:∀ (l:List α),(∀ a∈l,∀ c∈l,R a c)->l.Pairwise R
 |[],_=>List.Pairwise.nil
 |x :: l,h=>List.Pairwise.cons (fun c hc=>h x (List.mem_cons_self ..) c (List.mem_cons_of_mem _ hc)) (pairwise_all l fun a ha c hc=>h a (List.mem_cons_of_mem _ ha) c (List.mem_cons_of_mem _ hc))
theorem MS.poIn {w W:World} {gw ga:Nat} {u:Value} {e z b:Int} {r s:ByteArray} {y:Int} {vo:Value} {mo:List MO} {ui:Value} {il:List Int} {nm:ByteArray} {j:Nat} {vs:Value} {ms:List ML} (h:MS w gw ga u e z b r s y vo mo ui il nm j vs ms W) (ha:Apart mo):PoIn W w.heap.size vo vs mo ms :=
 ⟨h.orow,h.has,ha,h.srow,fun x hx=>by rw[(h.nl x hx).1,(h.nl x hx).2];exact St.OwnS.nil _ _,pairwise_all ms fun a ha' _ _ g hg=>by rw[(h.nl a ha').1]at hg;simp[Value.ownBlock]at hg⟩
end Go.Proofs.YtpddanmnlkcdpaaGreatDoor.Pl

