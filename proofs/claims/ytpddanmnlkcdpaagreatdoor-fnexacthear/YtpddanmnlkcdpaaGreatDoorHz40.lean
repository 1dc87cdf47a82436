/- Texts put together: ShaLaid, KpIn, PeTo3, PeMark, PeMark2, PeMark3, PeMark4, PoMark, PeEq, Climb, InclWalks, TkOwn, TkKeep, TkWork, TkOth, TkOld, KpOutP, StrLaws. -/
import Derived.Test.YtpddanmnlkcdpaaGreatDoorRows
import Derived.Test.YtpddanmnlkcdpaaGreatDoorHz33
import Derived.OpenShut
import Derived.MakeChecks
import Derived.LaidLaws
import Derived.LaidHandle
import Derived.Test.YtpddanmnlkcdpaaGreatDoorHz22
import Derived.WalkKit
import Derived.ProofKit
import Derived.ShutString
import Derived.ChangeOld
import Derived.Below
import Derived.ChangeSame
import Derived.Lib.SmallJoins
import Derived.Test.YtpddanmnlkcdpaaGreatDoorHz35
import Derived.Test.YtpddanmnlkcdpaaGreatDoorHz43
import Derived.Test.YtpddanmnlkcdpaaGreatDoorHz34
import Derived.Deep.RegionWith
import Derived.BigRegion
import Derived.Test.YtpddanmnlkcdpaaGreatDoorHz31
import Derived.RangeFuncNested
import Derived.Test.YtpddanmnlkcdpaaGreatDoorHz39
import Derived.Test.YtpddanmnlkcdpaaGreatDoorHz18
set_option maxRecDepth 100000
set_option maxHeartbeats 8000000
/- What a row's list of the two variables gives a walk: their blocks' numbers. -/
namespace Go.Proofs.YtpddanmnlkcdpaaGreatDoor.Sh
open Go.RowKit
theorem arr_cells {H:Type} {enc:TypeId × Value->H} {P:Program} {w:World} {base:Nat} {sp:Nat->Bool} {held:Bool} {fuel:Nat} {t e:TypeId} {n:Nat} {k:IntKind} {cs:Array Value} {zs:List Int} {p:List MemPlace}
  (ht:P.underlying t=some (.array n e)) (he:P.underlying e=some (.int k)) (hc:P.cellsOf e=1) (hct:P.cellsOf t=n) (hz:zs.length=n)
  (h:DataW.trod enc P w base sp held fuel t cs.toList=some (.agg (zs.map fun z=>.lit (.int k z)),p)):cs=rowF k n (fun j=>zs.getD j 0):=by
 obtain⟨xs,m,rfl,hx,hl,hxl,hall⟩:=DataW.trod_array ht h
 have hxs:xs.map (·.1)=zs.map fun z=>(DataW.lit (.int k z):DataW H):=by
  have:=congrArg Prod.fst hx
  simpa using this.symm
 apply Array.ext_getElem?
 intro i
 by_cases hi:i<n
 ·rw[rowF_get k n _ i hi]
  have h1:=hall i hi
  obtain⟨b,hb⟩:∃ b,xs[i]? = some b:=⟨xs[i]'(by omega),List.getElem?_eq_getElem (by omega)⟩
  rw[hb,hc]at h1
  obtain⟨z,hcz,rfl,_⟩:=DataW.trod_int he h1
  have h2:cs.toList[i]? = some (.int k z):=by
   have:=congrArg (·[0]?) hcz
   simpa [List.getElem?_take,List.getElem?_drop] using this
  have h3:(xs.map (·.1))[i]? = some (DataW.lit (.int k z):DataW H):=by simp[hb]
  rw[hxs]at h3
  simp only[List.getElem?_map,Option.map_eq_some_iff,DataW.lit.injEq,Lit.int.injEq,true_and]at h3
  obtain⟨z',hz',rfl⟩:=h3
  rw[<-Array.getElem?_toList,h2]
  simp[List.getD,hz']
 ·have h1:(rowF k n (fun j=>zs.getD j 0))[i]? = none:=by simp[rowF,hi]
  rw[h1,<-Array.getElem?_toList]
  exact List.getElem?_eq_none (by omega)
theorem var_block {P:Program} {w:World} {n:String} {g:Nat} {cs:Array Value} (hg:P.globalNamed n=some g) (h:w.var? P n=some cs):∃ t fr,w.heap[g]? = some (.cells cs t fr):=by
 unfold World.var? at h
 rw[hg]at h
 simp only[Option.bind_some]at h
 split at h
 ·rename_i c t fr hh
  obtain rfl:=Option.some.inj h
  exact⟨t,fr,hh⟩
 ·cases h
theorem gFirst:Tryz.prog.globalNamed "loop.example/g00550/impl.firstState"=some 2:=by kernel_rfl
theorem gRound:Tryz.prog.globalNamed "loop.example/g00550/impl.roundNumbers"=some 3:=by kernel_rfl
theorem tFirst:(Tryz.prog.globals[2]?).map (·.type)=some 293:=by kernel_rfl
theorem tRound:(Tryz.prog.globals[3]?).map (·.type)=some 300:=by kernel_rfl
theorem vars_of_laid {W:World} (h:laidMetH Tryz.prog [("loop.example/g00550/impl.firstState",Rows.laid_loop_example_g00550_impl_firstState),("loop.example/g00550/impl.roundNumbers",Rows.laid_loop_example_g00550_impl_roundNumbers)] W):Vars W:=by
 rw[MakeChecks.laidMetH_plain _ _ _ (by kernel_rfl)]at h
 obtain⟨ps,⟨g0,t0,cs0,f0,p0,q0,hg0,ht0,hv0,hd0,⟨g1,t1,cs1,f1,p1,q1,hg1,ht1,hv1,hd1,_,_⟩,_⟩,_,_⟩:=h
 obtain rfl:=Option.some.inj (gFirst.symm.trans hg0)
 obtain rfl:=Option.some.inj (gRound.symm.trans hg1)
 obtain rfl:=Option.some.inj (tFirst.symm.trans ht0)
 obtain rfl:=Option.some.inj (tRound.symm.trans ht1)
 have e0:=arr_cells (zs:=firstL) Tryz.underlying293 Tryz.underlying199 (by kernel_rfl) (by kernel_rfl) rfl hd0
 have e1:=arr_cells (zs:=keyL) Tryz.underlying300 Tryz.underlying199 (by kernel_rfl) (by kernel_rfl) rfl hd1
 subst e0
 subst e1
 exact⟨var_block hg0 hv0,var_block hg1 hv1⟩
end Go.Proofs.YtpddanmnlkcdpaaGreatDoor.Sh


/- A Keep that is handed in, opened. -/
namespace Go.Proofs.YtpddanmnlkcdpaaGreatDoor.Kp
open Go.RowKit Go.ChangeShapes Go.WideShapes Go.ChangeAt Go.Deep
theorem cellsList:Tryz.prog.cellsOf 23=3:=by kernel_rfl
theorem cellsStr:Tryz.prog.cellsOf 9=1:=by kernel_rfl
theorem cellsI64:Tryz.prog.cellsOf 2=1:=by kernel_rfl
theorem cellsKeep:Tryz.prog.cellsOf 25=5:=by kernel_rfl
end Go.Proofs.YtpddanmnlkcdpaaGreatDoor.Kp


namespace Go.Proofs.YtpddanmnlkcdpaaGreatDoor.Pe
open Go.RowKit
open Kp
open In (Ints OwnI)
open Ap (KeepE)
open Ls (lowL)
theorem OwnO.keepE {W W':World} {base:Nat} {v:Value} {m:List MO} {e:TypeId} (h:OwnO W base v m) (k:KeepE e W W') (he:(86:TypeId)≠e):OwnO W' base v m:=by
 obtain⟨hl,h⟩:=h
 refine⟨hl,?_⟩
 rcases h with h|⟨g,cap,cur,hv,hg,hb,rest⟩
 ·exact .inl h
 ·exact .inr ⟨g,cap,cur,hv,hg,k g cur _ he hb,rest⟩
theorem MadeO.keepE {W W':World} {base:Nat} {v:Value} {m mo:List MO} {e:TypeId} (h:MadeO W base v m mo) (k:KeepE e W W') (h1:(86:TypeId)≠e) (h2:(2:TypeId)≠e):MadeO W' base v m mo:=⟨h.os,h.row.keepE k h1,h.has.keep k h2,h.ap⟩
theorem keepE_six {W:World} {g:Nat} {cs:Array Value} {e:TypeId} (hg:W.heap[g]? = some (.cells cs e (0,0))) (a0 a1 a2 a3 a4 a5:Value):KeepE e W ((((((W.setCell ⟨g,0,none⟩ a0).setCell ⟨g,1,none⟩ a1).setCell ⟨g,2,none⟩ a2).setCell ⟨g,3,none⟩ a3).setCell ⟨g,4,none⟩ a4).setCell ⟨g,5,none⟩ a5):=fun k cur t ht hk =>
 setP6_keep hk (by
  rintro rfl
  rw[hg]at hk
  simp at hk
  exact ht hk.2.symm) _ _ _ _ _ _
def pZ:Obj:=.cells #[.int .i64 0,.int .i64 0,.string ⟨#[]⟩,.string ⟨#[]⟩,.int .i64 0,.slice none 0 0] 35
theorem toP_any (z b:Int) (r s:ByteArray) (y:Int) (a:Option Addr) (n cap:Nat) (m:List MO) (w:World) (h:Oths w w.heap.size a m) (hm:m.length=n) (hn:n<=1048576) (hsm:Small m) :
  Calls Tryz.prog 8 #[lpV z b r s y (.slice a n cap)] w fun e w'=>∃ g mo,e=.returned (peerV z b r s y (.slice (some ⟨g,0,none⟩) n n))/\MadeO w' w.heap.size (.slice (some ⟨g,0,none⟩) n n) m mo/\Below w.heap.size w w':=by
 have HK:=hideK (fun W=>toK_any z b r s y W)
 have HO:=hideK (fun W (hW:Below w.heap.size w W)=>toOs_any a n cap m W ((h.below hW).mono hW.size) hm hn hsm)
 have C0:=hideK ((((Cx.nil w).new (lpO z b r s y (.slice a n cap))).new pZ).new pZ)
 simp only[World.size_alloc]at C0
 clear h hsm
 unfold peerV
 unfold kV at HK
 unfold lpV
 unfold lpO pZ at C0
 go_enter Tryz.func8,Tryz.ntmps8
 go_wp2_with fail
 generalize ((w.alloc _).alloc _).alloc _=W0 at C0 ⊢
 refine(HK.out _).mono ?_
 rintro e w1 ⟨rfl,hb⟩
 have C1:=hideK (C0.out.call hb)
 clear hb C0
 obtain⟨q0,q1,q2,q3,q4,q5⟩:=cellsP6 (C1.out.get 0 rfl)
 have ff:=fun o=>frozen_of_row w1 (w.heap.size+1+1) o _ _ (C1.out.get 0 rfl)
 have D1:Hid (Cx w w1 [(w.heap.size+1,.cells #[.int .i64 0,.int .i64 0,.string ⟨#[]⟩,.string ⟨#[]⟩,.int .i64 0,.slice none 0 0] 35),(w.heap.size,.cells #[.int .i64 z,.int .i64 b,.string r,.string s,.int .i64 y,.slice a n cap] 28)]):=⟨C1.out.low,fun x hx=>C1.out.blk x (List.mem_cons_of_mem _ hx)⟩
 have ne:∀ x∈[(w.heap.size+1,Obj.cells #[.int .i64 0,.int .i64 0,.string ⟨#[]⟩,.string ⟨#[]⟩,.int .i64 0,.slice none 0 0] 35),(w.heap.size,.cells #[.int .i64 z,.int .i64 b,.string r,.string s,.int .i64 y,.slice a n cap] 28)],x.1≠w.heap.size+1+1:=fun x hx=>by
   rcases List.mem_cons.1 hx with rfl|hx
   ·show w.heap.size+1≠w.heap.size+1+1;omega
   ·rw[List.mem_singleton.1 hx];show w.heap.size≠w.heap.size+1+1;omega
 have D5:=hideK (((((D1.out.set (g:=w.heap.size+1+1) (by omega) ne 0 (.int .i64 z)).set (g:=w.heap.size+1+1) (by omega) ne 1 (.int .i64 b)).set (g:=w.heap.size+1+1) (by omega) ne 2 (.string r)).set (g:=w.heap.size+1+1) (by omega) ne 3 (.string s)).set (g:=w.heap.size+1+1) (by omega) ne 4 (.int .i64 y))
 have X1:=setC (cs':=#[.int .i64 z,.int .i64 0,.string ⟨#[]⟩,.string ⟨#[]⟩,.int .i64 0,.slice none 0 0]) (C1.out.get 0 rfl) 0 (.int .i64 z) rfl
 have X2:=setC (cs':=#[.int .i64 z,.int .i64 b,.string ⟨#[]⟩,.string ⟨#[]⟩,.int .i64 0,.slice none 0 0]) X1 1 (.int .i64 b) rfl
 have X3:=setC (cs':=#[.int .i64 z,.int .i64 b,.string r,.string ⟨#[]⟩,.int .i64 0,.slice none 0 0]) X2 2 (.string r) rfl
 have X4:=setC (cs':=#[.int .i64 z,.int .i64 b,.string r,.string s,.int .i64 0,.slice none 0 0]) X3 3 (.string s) rfl
 have X5:=hideK (setC (cs':=#[.int .i64 z,.int .i64 b,.string r,.string s,.int .i64 y,.slice none 0 0]) X4 4 (.int .i64 y) rfl)
 clear X1 X2 X3 X4 D1 C1
 go_upto_region 3 with fail
 generalize ((((w1.setCell _ _).setCell _ _).setCell _ _).setCell _ _).setCell _ _=W5 at D5 X5 ⊢
 clear q0 q1 q2 q3 q4 q5 ff
 have k5:=cell_of_row W5 w.heap.size 5 _ _ _ (D5.out.get 1 rfl)
 simp at k5
 go_wp2_with fail
 refine(HO.out _ D5.out.low).mono ?_
 rintro e w6 ⟨rfl,⟨mo,hmo⟩,hb⟩
 have M6:=hideK (hmo.mono D5.out.low.size)
 have X6:=hideK (Ls.blkL X5.out hb)
 have D6:=hideK (D5.out.call hb)
 clear hb hmo k5 D5 X5
 generalize W5.heap.size=gm at M6 ⊢
 obtain⟨q0,q1,q2,q3,q4,q5⟩:=cellsP6 X6.out
 have ff:=fun o=>frozen_of_row w6 (w.heap.size+1+1) o _ _ X6.out
 have D7:=hideK (D6.out.set (g:=w.heap.size+1+1) (by omega) ne 5 (.slice (some ⟨gm,0,none⟩) n n))
 have X7:=hideK (setC (cs':=#[.int .i64 z,.int .i64 b,.string r,.string s,.int .i64 y,.slice (some ⟨gm,0,none⟩) n n]) X6.out 5 (.slice (some ⟨gm,0,none⟩) n n) rfl)
 have M7:=hideK (M6.out.keepE (keepE_set X6.out 5 (.slice (some ⟨gm,0,none⟩) n n)) (by decide) (by decide))
 go_upto_region 4 with fail
 generalize w6.setCell _ _=W7 at D7 X7 M7 ⊢
 clear q0 q1 q2 q3 q4 q5 ff D6 X6 M6
 obtain⟨q0,q1,q2,q3,q4,q5⟩:=cellsP6 X7.out
 obtain⟨p0,p1,p2,p3,p4,p5⟩:=cellsP6 (D7.out.get 0 rfl)
 have ff:=fun o=>frozen_of_row W7 (w.heap.size+1) o _ _ (D7.out.get 0 rfl)
 have s6:=cellsP6 (setP6 (D7.out.get 0 rfl) (.int .i64 z) (.int .i64 b) (.string r) (.string s) (.int .i64 y) (.slice (some ⟨gm,0,none⟩) n n))
 have E6:=hideK (setP6_low D7.out.low (g:=w.heap.size+1) (by omega) (.int .i64 z) (.int .i64 b) (.string r) (.string s) (.int .i64 y) (.slice (some ⟨gm,0,none⟩) n n))
 have M8:=hideK (M7.out.keepE (keepE_six (D7.out.get 0 rfl) (.int .i64 z) (.int .i64 b) (.string r) (.string s) (.int .i64 y) (.slice (some ⟨gm,0,none⟩) n n)) (by decide) (by decide))
 clear ne
 go_wp2_with fail
 exact bodyPost_ret (v:=.agg #[.int .i64 z,.int .i64 b,.string r,.string s,.int .i64 y,.slice (some ⟨gm,0,none⟩) n n]) (by simp[results,Tryz.results8,go_sem,s6.1,s6.2.1,s6.2.2.1,s6.2.2.2.1,s6.2.2.2.2.1,s6.2.2.2.2.2]) rfl ⟨gm,mo,rfl,M8.out,E6.out⟩
end Go.Proofs.YtpddanmnlkcdpaaGreatDoor.Pe


namespace Go.Proofs.YtpddanmnlkcdpaaGreatDoor.Pe
open Go.RowKit
open Kp
open In (Ints OwnI)
open Ap (KeepE keepE_own)
open Ls (lowL)
open St (markT markT_any)
structure Chg (lo hi:Nat) (w w':World):Prop where
 os:w'.os=w.os
 tape:w'.tape=w.tape
 output:w'.output=w.output
 size:w.heap.size<=w'.heap.size
 block:∀ k,k<w.heap.size->(k<lo∨hi<=k)->w'.heap[k]? = w.heap[k]?
theorem Chg.refl (lo hi:Nat) (w:World):Chg lo hi w w:=⟨rfl,rfl,rfl,Nat.le_refl _,fun _ _ _=>rfl⟩
theorem Chg.call {lo hi:Nat} {w w1 w2:World} (h:Chg lo hi w w1) (hb:Below w1.heap.size w1 w2):Chg lo hi w w2 :=
 ⟨hb.os.trans h.os,hb.tape.trans h.tape,hb.output.trans h.output,Nat.le_trans h.size hb.size,fun k hk ho=>(hb.block k (Nat.lt_of_lt_of_le hk h.size)).trans (h.block k hk ho)⟩
theorem Chg.set {lo hi g i:Nat} {w w1:World} (h:Chg lo hi w w1) (hl:lo<=g) (hh:g<hi) (v:Value):Chg lo hi w (w1.setCell ⟨g,i,none⟩ v) :=
 ⟨h.os,h.tape,h.output,by simp;exact h.size,fun k hk ho=>by rw[heap_setCell_other w1 _ k v (by show k≠g;omega)];exact h.block k hk ho⟩
theorem Chg.grown {lo hi:Nat} {row:Option Nat} {w w1 w2:World} (h:Chg lo hi w w1) (hg:w1.grownBy w2 row) (hr:∀ g,row=some g->lo<=g/\g<hi):Chg lo hi w w2:=by
 obtain⟨h1,h2,h3,h4,h5⟩:=hg
 refine⟨h1.trans h.os,h2.trans h.tape,h3.trans h.output,Nat.le_trans h.size h4,fun k hk ho=>(h5 k (Nat.lt_of_lt_of_le hk h.size) (fun e=>?_)).trans (h.block k hk ho)⟩
 have:=hr k e.symm
 omega
theorem Chg.below {lo hi B:Nat} {w0 w w':World} (hb:Below B w0 w) (h:Chg lo hi w w') (hl:B<=lo) (hB:B<=w.heap.size):Below B w0 w' :=
 ⟨h.os.trans hb.os,h.tape.trans hb.tape,h.output.trans hb.output,Nat.le_trans hb.size h.size,fun k hk=>(h.block k (by omega) (by omega)).trans (hb.block k hk)⟩
theorem iset_mid (k i:Nat) (l:List Int) (h:i<l.length):(In.mmid l k i).set i ((k+i:Nat):Int)=In.mmid l k (i+1):=In.mmid_next l k i h
theorem ownI_set {W:World} {base g n cap:Nat} {l:List Int} {i:Nat} (h:OwnI W base (.slice (some ⟨g,0,none⟩) n cap) l) (hn:l.length=n) (x:Int):OwnI (W.setCell ⟨g,i,none⟩ (.int .i64 x)) base (.slice (some ⟨g,0,none⟩) n cap) (l.set i x):=by
 unfold OwnI at h ⊢
 rw[List.length_set,List.map_set]
 rw[hn]at h ⊢
 exact own_set h _
theorem markI_from (g n c k base:Nat) (l:List Int) (w:World) (h:OwnI w base (.slice (some ⟨g,0,none⟩) n c) l) (hln:l.length=n) (hn:n<=1048576) (hk:k<=1099511627776) :
  Calls Tryz.prog 82 #[.slice (some ⟨g,0,none⟩) n c,.int .i64 k] w fun e w'=>e=.returned (.int .i64 ((k+n:Nat):Int))/\OwnI w' base (.slice (some ⟨g,0,none⟩) n c) (In.marks k n)/\w.grownBy w' (some g):=by
 have HS:=hideK h
 have HLN:=hideK hln
 clear h hln
 go_enter Tryz.func82,Tryz.ntmps82
 go_wp2_with fail
 go_loopw [5,1] (fun i kv wr=>∃ j:Nat,i=.int .i64 j/\kv=.int .i64 ((k+j:Nat):Int)/\j<=n/\OwnI wr base (.slice (some ⟨g,0,none⟩) n c) (In.mmid l k j)/\w.grownBy wr (some g)) (fun i _ _=>n-(intOf i).toNat)
 case atStart=>exact⟨0,rfl,rfl,by omega,by rw[In.mmid_zero];exact HS.out,Tr.grown_refl _ _⟩
 case round =>
  obtain⟨j,rfl,rfl,hj,h1,ha⟩:=hrel
  have G1:=hideK h1
  have GA:=hideK ha
  clear h1 ha
  by_cases hlt:j<n
  ·have hjl:j<l.length:=by rw[HLN.out];exact hlt
   have hlt':(j:Int)<(n:Int):=by omega
   have HM:=hideK (iset_mid k j l hjl)
   have HL:=hideK (In.mmid_length l k j (by omega))
   have hml:(In.mmid l k j).length=n:=by rw[HL.out,HLN.out]
   obtain⟨v0,ce,cf⟩:∃ v,wr.cell? ⟨g,j,none⟩=some (.int .i64 v)/\wr.frozen? ⟨g,j,none⟩=false:=by
    rcases G1.out.split with⟨h,_⟩|⟨g',cap',hv,_,_,ho⟩
    ·cases h
    ·obtain rfl:g=g':=by simp at hv;exact hv.1
     exact⟨_,ho.cell (j:=j) (by omega),ho.frozen j⟩
   have N1:Hid (OwnI (wr.setCell ⟨g,j,none⟩ (.int .i64 ((k+j:Nat):Int))) base (.slice (some ⟨g,0,none⟩) n c) (In.mmid l k (j+1))):=by
    unfold Hid
    rw[<-HM.out]
    exact ownI_set G1.out hml _
   have N2:Hid (w.grownBy (wr.setCell ⟨g,j,none⟩ (.int .i64 ((k+j:Nat):Int))) (some g)):=by
    obtain⟨a1,a2,a3,a4,a5⟩:=GA.out
    exact⟨a1,a2,a3,by simp;exact a4,fun q hq hne=>by rw[heap_setCell_other wr _ q _ (by exact fun e=>hne (by rw[e]))];exact a5 q hq hne⟩
   clear HM HL hml
   generalize hkk:k+j=kk at N1 N2 ⊢
   have hk2:kk+1=k+(j+1):=by omega
   have hk3:kk<=2199023255552:=by omega
   clear hkk
   have HK2:=hideK hk2
   clear hk2
   go_wp2_with fail
   go_roundw
   case rel=>exact⟨j+1,by go_num,by rw[<-HK2.out];go_num,by omega,N1.out,N2.out⟩
   case measure=>simp[intOf];omega
  ·obtain rfl:j=n:=by omega
   have HE:Hid (In.mmid l k j=In.marks k j):=by
    have:=HLN.out
    subst this
    exact In.mmid_all l k
   have N1:Hid (OwnI wr base (.slice (some ⟨g,0,none⟩) j c) (In.marks k j)):=by rw[<-HE.out];exact G1.out
   have hltD:decide ((j:Int)<(j:Int))=false:=by simp
   generalize hkk:k+j=kk
   have HKK:=hideK hkk
   clear hkk
   go_wp2_with fail
   go_ret
   exact⟨by rw[HKK.out];rfl,N1.out,GA.out⟩
theorem markI_nil (a:Option Addr) (c k:Nat) (w:World) :
  Calls Tryz.prog 82 #[.slice a 0 c,.int .i64 k] w fun e w'=>e=.returned (.int .i64 (k:Int))/\w'=w:=by
 go_enter Tryz.func82,Tryz.ntmps82
 go_wp2_with fail
 go_loopw [5,1] (fun i kv wr=>i=.int .i64 0/\kv=.int .i64 (k:Int)/\wr=w) (fun _ _ _=>0)
 case atStart=>exact⟨rfl,rfl,rfl⟩
 case round =>
  obtain⟨rfl,rfl,hw⟩:=hrel
  subst hw
  go_wp2_with fail
  go_ret
  exact⟨rfl,rfl⟩
theorem markI_own (k base:Nat) (v:Value) (l:List Int) (w:World) (h:OwnI w base v l) (hn:l.length<=1048576) (hk:k<=1099511627776) :
  Calls Tryz.prog 82 #[v,.int .i64 k] w fun e w'=>e=.returned (.int .i64 ((k+l.length:Nat):Int))/\OwnI w' base v (In.marks k l.length)/\w.grownBy w' v.ownBlock:=by
 rcases h.split with⟨rfl,rfl⟩|⟨g,cap,rfl,_,_,_⟩
 ·refine(markI_nil none 0 k w).mono ?_
  rintro e w' ⟨rfl,rfl⟩
  exact⟨rfl,OwnI.nil _ _,Tr.grown_refl _ _⟩
 ·exact markI_from g _ cap k base l w h rfl hn hk
end Go.Proofs.YtpddanmnlkcdpaaGreatDoor.Pe


/- The laws' marks in a row of others. -/
namespace Go.Proofs.YtpddanmnlkcdpaaGreatDoor.Pe
open Go.RowKit
open Kp
open In (Ints OwnI)
open Ap (KeepE keepE_own)
open Ls (lowL)
open St (markT markT_any)
def mkO (k:Nat) (o:Oth):Oth:=⟨markT k,In.marks (k+1) o.has.length,((k+1+o.has.length:Nat):Int),((k+2+o.has.length:Nat):Int),((k+3+o.has.length:Nat):Int)⟩
def mkN (k:Nat) (o:Oth):Nat:=k+4+o.has.length
def mkL:Nat->List Oth->List Oth
 |_,[]=>[]
 |k,o :: l=>mkO k o :: mkL (mkN k o) l
def mkE:Nat->List Oth->Nat
 |k,[]=>k
 |k,o :: l=>mkE (mkN k o) l
theorem mkL_length:∀ (l:List Oth) (k:Nat),(mkL k l).length=l.length
 |[],_=>rfl
 |o :: l,k=>by rw[mkL,List.length_cons,List.length_cons,mkL_length l]
theorem mkE_append:∀ (l l':List Oth) (k:Nat),mkE k (l++l')=mkE (mkE k l) l'
 |[],_,_=>rfl
 |o :: l,l',k=>by rw[List.cons_append,mkE,mkE,mkE_append l]
theorem mkL_append:∀ (l l':List Oth) (k:Nat),mkL k (l++l')=mkL k l++mkL (mkE k l) l'
 |[],_,_=>rfl
 |o :: l,l',k=>by rw[List.cons_append,mkL,mkL,mkE,mkL_append l];rfl
theorem mkE_le:∀ (l:List Oth) (k:Nat),k<=mkE k l
 |[],k=>Nat.le_refl _
 |o :: l,k=>by
  have:=mkE_le l (mkN k o)
  rw[mkE]
  unfold mkN at this ⊢
  omega
theorem mkE_take {m:List MO} {j k:Nat} (h:j<m.length):mkE k (oths (m.take (j+1)))=mkN (mkE k (oths (m.take j))) m[j].1:=by rw[oths_take h,mkE_append];rfl
theorem mkE_take_le {m:List MO} (k j:Nat):mkE k (oths (m.take j))<=mkE k (oths m):=by
 have h:oths m=oths (m.take j)++oths (m.drop j):=by
  unfold oths
  rw[<-List.map_append,List.take_append_drop]
 rw[h,mkE_append]
 exact mkE_le _ _
theorem mkE_bd:∀ (l:List Oth) (k:Nat),mkE k l<=k+4*l.length+tot l
 |[],k=>by
  unfold mkE
  omega
 |o :: l,k=>by
  have h:=mkE_bd l (mkN k o)
  rw[mkE,List.length_cons]
  have ht:tot (o :: l)=cost o+tot l:=by unfold tot;rw[List.map_cons,List.sum_cons]
  rw[ht]
  unfold mkN at h ⊢
  unfold cost
  omega
theorem cellsO_set4:∀ (m:List MO) (i:Nat) (x:MO) (h:i<m.length),x.2=m[i].2->cellsO (m.set i x)=((((cellsO m).set (i*5) (.string x.1.name)).set (i*5+2) (.int .i64 x.1.asked)).set (i*5+3) (.int .i64 x.1.age)).set (i*5+4) (.int .i64 x.1.strikes)
 |y :: m,0,x,_,e=>by
  have e':x.2=y.2:=e
  rw[List.set_cons_zero,cellsO,cellsO,e']
  rfl
 |y :: m,i+1,x,h,e=>by
  rw[List.set_cons_succ,cellsO,cellsO,cellsO_set4 m i x (Nat.lt_of_succ_lt_succ h) e,show (i+1)*5=i*5+5 by omega,show i*5+5+2=(i*5+2)+5 by omega,show i*5+5+3=(i*5+3)+5 by omega,show i*5+5+4=(i*5+4)+5 by omega]
  rfl
def KeepO (w w':World):Prop:=∀ (k:Nat) (cs:Array Value) (T:TypeId),w.heap[k]? = some (.cells cs T (0,0))->T≠86->T≠2->w'.heap[k]? = some (.cells cs T (0,0))
theorem KeepO.refl (w:World):KeepO w w:=fun _ _ _ h _ _=>h
theorem KeepO.call {w w1 w2:World} (h:KeepO w w1) (hb:Below w1.heap.size w1 w2):KeepO w w2:=fun k cs T hk h1 h2=>(hb.block k (lt_rowK (h k cs T hk h1 h2))).trans (h k cs T hk h1 h2)
theorem KeepO.after {w w1 w2:World} (hb:Below w.heap.size w w1) (h:KeepO w1 w2):KeepO w w2:=fun k cs T hk h1 h2=>h k cs T ((hb.block k (lt_rowK hk)).trans hk) h1 h2
theorem KeepO.set {w w1:World} {g i:Nat} {cur:Array Value} (h:KeepO w w1) (hg:w1.heap[g]? = some (.cells cur 86 (0,0))) (v:Value):KeepO w (w1.setCell ⟨g,i,none⟩ v)/\∃ cur',(w1.setCell ⟨g,i,none⟩ v).heap[g]? = some (.cells cur' 86 (0,0)) :=
 ⟨fun k cs T hk h1 h2=>(heap_setCell_other w1 ⟨g,i,none⟩ k v (by exact fun e=>ty_ne (h k cs T hk h1 h2) hg h1 e)).trans (h k cs T hk h1 h2),_,heap_setCell_same w1 g i _ _ v hg⟩
theorem KeepO.grown {w w1 w2:World} {row:Option Nat} (h:KeepO w w1) (hg:w1.grownBy w2 row) (hr:∀ g,row=some g->∃ cur,w1.heap[g]? = some (.cells cur 2 (0,0))):KeepO w w2:=fun k cs T hk h1 h2=>by
 have hk1:=h k cs T hk h1 h2
 refine(hg.block k (lt_rowK hk1) (fun e=>?_)).trans hk1
 obtain⟨cur,hc⟩:=hr k e.symm
 exact ty_ne hk1 hc h2 rfl
def InB (lo hi:Nat) (v:Value) (m:List MO):Prop:=(∀ g,v.ownBlock=some g->lo<=g/\g<hi)/\∀ x∈m,∀ g,x.2.ownBlock=some g->lo<=g/\g<hi
def midM (k:Nat) (m:List MO) (j:Nat):List MO:=(List.zip (mkL k (oths (m.take j))) ((m.take j).map (·.2)))++m.drop j
theorem midM_zero (k:Nat) (m:List MO):midM k m 0=m:=by unfold midM;simp
theorem midM_length (k:Nat) (m:List MO) (j:Nat) (h:j<=m.length):(midM k m j).length=m.length:=by
 unfold midM
 rw[List.length_append,List.length_zip,mkL_length,oths_length,List.length_map,List.length_take,List.length_drop]
 omega
theorem midM_all (k:Nat) (m:List MO):oths (midM k m m.length)=mkL k (oths m)/\(midM k m m.length).map (·.2)=m.map (·.2):=by
 unfold midM
 rw[List.take_length,List.drop_length,List.append_nil]
 constructor
 ·unfold oths
  rw[List.map_fst_zip (by rw[mkL_length,List.length_map,List.length_map];exact Nat.le_refl _)]
 ·rw[List.map_snd_zip (by rw[mkL_length,oths_length,List.length_map];exact Nat.le_refl _)]
theorem midM_at (k:Nat) (m:List MO) (j:Nat) (h:j<m.length):(midM k m j)[j]'(by rw[midM_length k m j (by omega)];exact h)=m[j]:=by
 have hl:(List.zip (mkL k (oths (m.take j))) ((m.take j).map (·.2))).length=j:=by
  rw[List.length_zip,mkL_length,oths_length,List.length_map,List.length_take]
  omega
 unfold midM
 rw[List.getElem_append_right (by omega)]
 simp only[hl,Nat.sub_self]
 rw[List.getElem_drop]
 rfl
theorem midM_next (k:Nat) (m:List MO) (j:Nat) (h:j<m.length):(midM k m j).set j (mkO (mkE k (oths (m.take j))) m[j].1,m[j].2)=midM k m (j+1):=by
 have hl:(List.zip (mkL k (oths (m.take j))) ((m.take j).map (·.2))).length=j:=by
  rw[List.length_zip,mkL_length,oths_length,List.length_map,List.length_take]
  omega
 unfold midM
 rw[List.set_append,if_neg (by omega),hl,Nat.sub_self,List.drop_eq_getElem_cons h,List.set_cons_zero,oths_take h,mkL_append,List.take_succ_eq_append_getElem h,List.map_append,List.zip_append (by rw[mkL_length,oths_length,List.length_map]),List.append_assoc]
 rfl
theorem apart_snd {m m':List MO} (h:m'.map (·.2)=m.map (·.2)) (ha:Apart m):Apart m':=by
 unfold Apart at ha ⊢
 have:(m.map (·.2)).Pairwise (fun (x y:Value)=>∀ g,x.ownBlock=some g->y.ownBlock≠some g):=List.pairwise_map.2 ha
 rw[<-h]at this
 exact List.pairwise_map.1 this
theorem inB_snd {lo hi:Nat} {v:Value} {m m':List MO} (h:m'.map (·.2)=m.map (·.2)) (hb:InB lo hi v m):InB lo hi v m':=⟨hb.1,fun x hx g hg=>by
 have:x.2∈m.map (·.2):=by rw[<-h];exact List.mem_map_of_mem hx
 obtain⟨y,hy,he⟩:=List.mem_map.1 this
 exact hb.2 y hy g (by rw[he];exact hg)⟩
structure RowM (W:World) (lo hi:Nat) (v:Value) (m:List MO):Prop where
 row:OwnO W lo v m
 has:Hass W lo m
 ap:Apart m
 inb:InB lo hi v m
theorem hass_grown {W W':World} {lo j:Nat} {m:List MO} {x:MO} (h:Hass W lo m) (ha:Apart m) (hj:j<m.length) (hg:W.grownBy W' m[j].2.ownBlock) (hn:OwnI W' lo x.2 x.1.has):Hass W' lo (m.set j x):=by
 intro y hy
 obtain⟨i,hi,rfl⟩:=List.getElem_of_mem hy
 rw[List.length_set]at hi
 by_cases e:j=i
 ·subst e
  rw[List.getElem_set_self]
  exact hn
 ·rw[List.getElem_set_ne e]
  have hne:∀ g,m[i].2.ownBlock=some g->m[j].2.ownBlock≠some g:=fun g h1 h2=>by
   have hp:=List.pairwise_iff_getElem.1 ha
   rcases Nat.lt_or_gt_of_ne e with hlt|hgt
   ·exact hp j i hj hi hlt g h2 h1
   ·exact hp i j hi hj hgt g h1 h2
  obtain⟨hl,ho⟩:=h m[i] (List.getElem_mem hi)
  refine⟨hl,?_⟩
  rcases ho with ho|⟨g,cap,cur,hv,hgb,hb,rest⟩
  ·exact .inl ho
  ·refine .inr ⟨g,cap,cur,hv,hgb,?_,rest⟩
   rw[hg.block g (lt_rowK hb) (fun e=>hne g (by rw[hv];rfl) e.symm)]
   exact hb
end Go.Proofs.YtpddanmnlkcdpaaGreatDoor.Pe


namespace Go.Proofs.YtpddanmnlkcdpaaGreatDoor.Pe
open Go.RowKit
open Kp
open In (Ints OwnI)
open Ap (KeepE keepE_own)
open Ls (lowL)
open St (markT markT_any)
theorem own_cell {W:World} {base g k n cap p:Nat} {e:TypeId} {xs:List Value} {u:Value} (h:W.ownsRow base e k (.slice (some ⟨g,0,none⟩) n cap) n xs) (hx:xs[p]? = some u):W.cell? ⟨g,p,none⟩=some u/\W.frozen? ⟨g,p,none⟩=false:=by
 obtain⟨hl,h⟩:=h
 rcases h with⟨h,_⟩|⟨g',cap',cur,hv,hg,hb,h1,h2,h3,h4⟩
 ·cases h
 ·obtain rfl:g=g':=by simp at hv;exact hv.1
  have hp:p<n*k:=by
   have:=(List.getElem?_eq_some_iff.1 hx).1
   omega
  rw[<-h4,List.getElem?_take_of_lt hp,Array.getElem?_toList]at hx
  exact⟨(cell_of_row W g p _ _ _ hb).trans hx,frozen_of_row W g p _ _ hb⟩
theorem own_grown {W W':World} {base g k n cap:Nat} {e:TypeId} {xs:List Value} {row:Option Nat} (h:W.ownsRow base e k (.slice (some ⟨g,0,none⟩) n cap) n xs) (hg:W.grownBy W' row) (hr:row≠some g):W'.ownsRow base e k (.slice (some ⟨g,0,none⟩) n cap) n xs:=by
 obtain⟨hl,h⟩:=h
 refine⟨hl,?_⟩
 rcases h with h|⟨g',cap',cur,hv,hgb,hb,rest⟩
 ·exact .inl h
 ·obtain rfl:g=g':=by simp at hv;exact hv.1
  exact .inr ⟨g,cap',cur,hv,hgb,(hg.block g (lt_rowK hb) (fun e=>hr e.symm)).trans hb,rest⟩
theorem own_blk {W:World} {base g k n cap:Nat} {e:TypeId} {xs:List Value} (h:W.ownsRow base e k (.slice (some ⟨g,0,none⟩) n cap) n xs):∃ cur,W.heap[g]? = some (.cells cur e (0,0)):=by
 obtain⟨_,h⟩:=h
 rcases h with⟨h,_⟩|⟨g',cap',cur,hv,_,hb,_⟩
 ·cases h
 ·obtain rfl:g=g':=by simp at hv;exact hv.1
  exact⟨cur,hb⟩
theorem own_down {w w':World} {base e k n:Nat} {v:Value} {xs:List Value} (h:w.ownsRow base e k v n xs) (b:Below w.heap.size w w'):w'.ownsRow base e k v n xs:=by
 obtain⟨hl,h⟩:=h
 refine⟨hl,?_⟩
 rcases h with h|⟨g,cap,cur,hv,hg,hb,rest⟩
 ·exact .inl h
 ·exact .inr ⟨g,cap,cur,hv,hg,by rw[b.block g (lt_rowK hb)];exact hb,rest⟩
theorem ownI_blk {W:World} {base g:Nat} {v:Value} {l:List Int} (h:OwnI W base v l) (hg:v.ownBlock=some g):∃ cur,W.heap[g]? = some (.cells cur 2 (0,0)):=by
 obtain⟨_,h⟩:=h
 rcases h with⟨rfl,_⟩|⟨g',cap',cur,rfl,_,hb,_⟩
 ·simp[Value.ownBlock]at hg
 ·simp[Value.ownBlock]at hg
  subst hg
  exact⟨cur,hb⟩
theorem mark_round {W w1 w3:World} {lo hi g n cap j kj:Nat} {m:List MO} (h:RowM W lo hi (.slice (some ⟨g,0,none⟩) n cap) m) (hn:m.length=n) (hj:j<m.length) (hb1:Below W.heap.size W w1)
  (ho3:OwnI w3 lo m[j].2 (In.marks (kj+1) m[j].1.has.length)) (hg3:(w1.setCell ⟨g,j*5,none⟩ (.string (markT kj))).grownBy w3 m[j].2.ownBlock) :
  w3.ownsRow lo 86 5 (.slice (some ⟨g,0,none⟩) n cap) n ((cellsO m).set (j*5) (.string (markT kj))) /\
  RowM (((w3.setCell ⟨g,j*5+2,none⟩ (.int .i64 ((kj+1+m[j].1.has.length:Nat):Int))).setCell ⟨g,j*5+3,none⟩ (.int .i64 ((kj+2+m[j].1.has.length:Nat):Int))).setCell ⟨g,j*5+4,none⟩ (.int .i64 ((kj+3+m[j].1.has.length:Nat):Int))) lo hi (.slice (some ⟨g,0,none⟩) n cap) (m.set j (mkO kj m[j].1,m[j].2)):=by
 have R0:W.ownsRow lo 86 5 (.slice (some ⟨g,0,none⟩) n cap) n (cellsO m):=by have:=h.row;unfold OwnO at this;rwa[hn]at this
 have R1:=own_down R0 hb1
 have R2:=own_set (p:=j*5) R1 (.string (markT kj))
 obtain⟨cur1,hc1⟩:=own_blk R1
 obtain⟨cur2,hc2⟩:=own_blk R2
 have he:(2:TypeId)≠86:=by decide
 have H1:Hass w1 lo m:=h.has.below hb1
 have H2:Hass (w1.setCell ⟨g,j*5,none⟩ (.string (markT kj))) lo m:=H1.keep (keepE_set hc1 _ _) he
 have hne:m[j].2.ownBlock≠some g:=fun e=>by
  obtain⟨cur,hc⟩:=ownI_blk (H2 m[j] (List.getElem_mem hj)) e
  rw[hc2]at hc
  simp at hc
 have R3:=own_grown R2 hg3 hne
 have R4:=own_set (p:=j*5+2) R3 (.int .i64 ((kj+1+m[j].1.has.length:Nat):Int))
 have R5:=own_set (p:=j*5+3) R4 (.int .i64 ((kj+2+m[j].1.has.length:Nat):Int))
 have R6:=own_set (p:=j*5+4) R5 (.int .i64 ((kj+3+m[j].1.has.length:Nat):Int))
 obtain⟨cur3,hc3⟩:=own_blk R3
 obtain⟨cur4,hc4⟩:=own_blk R4
 obtain⟨cur5,hc5⟩:=own_blk R5
 have H3:Hass w3 lo (m.set j (mkO kj m[j].1,m[j].2)):=hass_grown H2 h.ap hj hg3 ho3
 have hsnd:(m.set j (mkO kj m[j].1,m[j].2)).map (·.2)=m.map (·.2):=by
  rw[List.map_set]
  apply List.ext_getElem?
  intro i
  rw[List.getElem?_set]
  split
  ·rename_i e
   subst e
   simp[hj]
  ·rfl
 refine⟨R3,?_,?_,apart_snd hsnd h.ap,inB_snd hsnd h.inb⟩
 ·unfold OwnO
  rw[List.length_set,hn,cellsO_set4 m j (mkO kj m[j].1,m[j].2) hj rfl]
  exact R6
 ·exact((H3.keep (keepE_set hc3 _ _) he).keep (keepE_set hc4 _ _) he).keep (keepE_set hc5 _ _) he
theorem markOs_any (k lo hi:Nat) (v:Value) (m:List MO) (w:World) (h:RowM w lo hi v m) (hn:m.length<=1048576) (hsm:∀ x∈m,x.1.has.length<=1048576) (h0:0<k) (hk:mkE k (oths m)<=1099511627776) :
  Calls Tryz.prog 43 #[v,.int .i64 k] w fun e w'=>e=.returned (.int .i64 (mkE k (oths m):Nat))/\(∃ m',oths m'=mkL k (oths m)/\m'.map (·.2)=m.map (·.2)/\RowM w' lo hi v m')/\Chg lo hi w w'/\KeepO w w':=by
 have HS:=hideK h
 obtain⟨a,cap,hv,_,_⟩:=h.row.one
 subst hv
 have HSM:=hideK hsm
 have HKE:=hideK hk
 generalize hnn:m.length=n at hn ⊢
 rw[hnn]at HS
 have HN:=hideK hnn
 clear h hsm hk hnn
 have HEND:Hid (∀ (W:World),RowM W lo hi (.slice a n cap) (midM k m n)->∃ m',oths m'=mkL k (oths m)/\m'.map (·.2)=m.map (·.2)/\RowM W lo hi (.slice a n cap) m'):=fun W hW=>⟨midM k m n,by rw[<-HN.out];exact(midM_all k m).1,by rw[<-HN.out];exact(midM_all k m).2,hW⟩
 have HEE:Hid (mkE k (oths (m.take n))=mkE k (oths m)):=by unfold Hid;rw[List.take_of_length_le (by rw[HN.out];exact Nat.le_refl _)]
 go_enter Tryz.func43,Tryz.ntmps43
 go_wp2_with fail
 go_loopw [5,1] (fun i kv wr=>∃ j kj:Nat,i=.int .i64 j/\kv=.int .i64 (kj:Int)/\j<=n/\kj=mkE k (oths (m.take j))/\RowM wr lo hi (.slice a n cap) (midM k m j)/\Chg lo hi w wr/\KeepO w wr) (fun i _ _=>n-(intOf i).toNat)
 case atStart=>exact⟨0,k,rfl,rfl,Nat.zero_le _,rfl,by rw[midM_zero];exact HS.out,Chg.refl _ _ _,KeepO.refl _⟩
 case round =>
  obtain⟨j,kj,rfl,rfl,hj,hkj,hrow,hch,hko⟩:=hrel
  have KO:=hideK hko
  have R:=hideK hrow
  have CH:=hideK hch
  have HKJ:=hideK hkj
  have hkb:kj<=1099511627776:=by rw[hkj];exact Nat.le_trans (mkE_take_le k j) HKE.out
  have hk0:0<kj:=by rw[hkj];exact Nat.lt_of_lt_of_le h0 (mkE_le _ _)
  clear hrow hch hkj hko
  by_cases hlt:j<n
  ·have hlt':(j:Int)<(n:Int):=by omega
   have hjl:j<m.length:=by rw[HN.out];exact hlt
   have hml:(midM k m j).length=n:=by rw[midM_length k m j (by omega),HN.out]
   have hjm:j<(midM k m j).length:=by omega
   have HAT:=hideK (midM_at k m j hjl)
   obtain⟨g,cp,hv,hlo,hgz,_,hcc⟩:=R.out.row.cells (by omega)
   obtain⟨rfl,rfl⟩:a=some ⟨g,0,none⟩/\cap=cp:=by simp at hv;exact⟨hv.1,hv.2.2⟩
   clear hv
   have hghi:=(R.out.inb.1 g rfl).2
   have hF:=hcc j hjm
   rw[HAT.out]at hF
   have HRD:Hid (∀ (w1 w3:World),Below wr.heap.size wr w1->OwnI w3 lo m[j].2 (In.marks (kj+1) m[j].1.has.length)->(w1.setCell ⟨g,j*5,none⟩ (.string (markT kj))).grownBy w3 m[j].2.ownBlock->w3.ownsRow lo 86 5 (.slice (some ⟨g,0,none⟩) n cap) n ((cellsO (midM k m j)).set (j*5) (.string (markT kj)))/\RowM (((w3.setCell ⟨g,j*5+2,none⟩ (.int .i64 ((kj+1+m[j].1.has.length:Nat):Int))).setCell ⟨g,j*5+3,none⟩ (.int .i64 ((kj+2+m[j].1.has.length:Nat):Int))).setCell ⟨g,j*5+4,none⟩ (.int .i64 ((kj+3+m[j].1.has.length:Nat):Int))) lo hi (.slice (some ⟨g,0,none⟩) n cap) (midM k m (j+1))):=fun w1 w3 h1 h2 h3=>by
    have hq:=mark_round (W:=wr) (w1:=w1) (w3:=w3) (j:=j) (kj:=kj) R.out hml hjm h1 (by rw[HAT.out];exact h2) (by rw[HAT.out];exact h3)
    rw[HAT.out,HKJ.out,midM_next k m j hjl,<-HKJ.out]at hq
    exact hq
   have HX2:Hid (∀ (w1:World),Below wr.heap.size wr w1->OwnI (w1.setCell ⟨g,j*5,none⟩ (.string (markT kj))) lo m[j].2 m[j].1.has/\(w1.setCell ⟨g,j*5,none⟩ (.string (markT kj))).cell? ⟨g,j*5+1,none⟩=some m[j].2):=fun w1 h1=>by
    have hr:=R.out.row.below h1
    obtain⟨cur,hc⟩:=hr.blk
    refine⟨?_,?_⟩
    ·have:=(R.out.has.below h1).keep (keepE_set hc (j*5) (.string (markT kj))) (by decide) ((midM k m j)[j]) (List.getElem_mem hjm)
     rw[HAT.out]at this
     exact this
    ·have hq:=own_set (p:=j*5) (show w1.ownsRow lo 86 5 (.slice (some ⟨g,0,none⟩) n cap) n (cellsO (midM k m j)) by have:=hr;unfold OwnO at this;rwa[hml]at this) (.string (markT kj))
     refine(own_cell hq ?_).1
     rw[List.getElem?_set_ne (by omega),(cellsO_at (midM k m j) j hjm).2.1,HAT.out]
   have HCL:Hid (∀ (W:World) (xs:List Value),xs=(cellsO (midM k m j)).set (j*5) (.string (markT kj))->W.ownsRow lo 86 5 (.slice (some ⟨g,0,none⟩) n cap) n xs->W.cell? ⟨g,j*5+2,none⟩=some (.int .i64 m[j].1.asked)/\W.cell? ⟨g,j*5+3,none⟩=some (.int .i64 m[j].1.age)/\W.cell? ⟨g,j*5+4,none⟩=some (.int .i64 m[j].1.strikes)/\∀ o,W.frozen? ⟨g,o,none⟩=false):=fun W xs hxs hW=>by
    have hc:=cellsO_at (midM k m j) j hjm
    rw[HAT.out]at hc
    obtain⟨cur,hb⟩:=own_blk hW
    exact⟨(own_cell hW (by rw[hxs,List.getElem?_set_ne (by omega)];exact hc.2.2.1)).1,(own_cell hW (by rw[hxs,List.getElem?_set_ne (by omega)];exact hc.2.2.2.1)).1,(own_cell hW (by rw[hxs,List.getElem?_set_ne (by omega)];exact hc.2.2.2.2)).1,fun o=>frozen_of_row W g o _ _ hb⟩
   have HNX:=hideK (mkE_take (k:=k) hjl)
   rw[<-HKJ.out]at HNX
   have hkx:=HSM.out m[j] (List.getElem_mem hjl)
   have HMI:=hideK (fun W (hW:OwnI W lo m[j].2 m[j].1.has)=>markI_own (kj+1) lo m[j].2 m[j].1.has W hW hkx (by have:=Nat.le_trans (mkE_take_le (m:=m) k (j+1)) HKE.out;rw[HNX.out]at this;unfold mkN at this;omega))
   have HBK:Hid (∀ q,m[j].2.ownBlock=some q->lo<=q/\q<hi):=fun q hq=>R.out.inb.2 ((midM k m j)[j]) (List.getElem_mem hjm) q (by rw[HAT.out];exact hq)
   obtain⟨av,cv,hxv,_,_⟩:=(show OwnI wr lo m[j].2 m[j].1.has by have:=R.out.has ((midM k m j)[j]) (List.getElem_mem hjm);rw[HAT.out]at this;exact this).ints
   unfold mkN at HNX
   obtain⟨d0,d1,d2,d3,d4⟩:=hF
   have hfz:=R.out.row.frozen (j*5)
   generalize m[j].1.name=nm at d0
   generalize m[j].1.has=l at HRD HX2 HMI HNX hkx hxv
   generalize m[j].1.asked=q1 at d2 HCL
   generalize m[j].1.age=q2 at d3 HCL
   generalize m[j].1.strikes=q3 at d4 HCL
   generalize m[j].2=xv at d1 HRD HX2 HMI HBK hxv
   subst hxv
   generalize hll:l.length=ll at HRD HMI HNX hkx d1 HX2 HBK
   have hz4:Hid (mkE k (oths (m.take (j+1)))<=1099511627776):=Nat.le_trans (mkE_take_le k (j+1)) HKE.out
   have hkl:kj+4+ll<=1099511627776:=by rw[<-HNX.out];exact hz4.out
   clear hcc hml HAT hll hz4
   have HMT:=hideK (markT_any kj wr hk0 hkb)
   go_wp2_with fail
   refine HMT.out.mono ?_
   rintro e w1 ⟨rfl,hb1⟩
   have B1:=hideK hb1
   have y0:=(hb1.cell (p:=⟨g,j*5,none⟩) hgz).trans d0
   have yf:=(hb1.frozen (p:=⟨g,j*5,none⟩) hgz).trans hfz
   obtain⟨hoi,hcell⟩:=HX2.out w1 hb1
   obtain⟨cur1,hcu1⟩:=(R.out.row.below hb1).blk
   have KO1:=hideK ((KO.out.call hb1).set (i:=j*5) hcu1 (.string (markT kj))).1
   have KT1:=hideK (fun q hq=>ownI_blk hoi (g:=q) hq)
   have HM2:=hideK (HMI.out _ hoi)
   have C1:=hideK ((CH.out.call hb1).set (i:=j*5) hlo hghi (.string (markT kj)))
   clear d0 d1 d2 d3 d4 hfz hb1 HMT hoi
   go_upto_region 6 with fail
   have HR1:=hideK (fun w3=>HRD.out w1 w3 B1.out)
   generalize w1.setCell ⟨g,j*5,none⟩ (.string (markT kj))=W2 at HM2 C1 hcell HR1 KO1 KT1 ⊢
   clear y0 yf HRD HX2
   rw[show ((kj+1:Nat):Int)=(kj:Int)+1 by omega]at HM2
   go_wp2_with fail
   refine HM2.out.mono ?_
   rintro e w3 ⟨rfl,ho3,hg3⟩
   obtain⟨hr3,hrm⟩:=HR1.out w3 ho3 hg3
   obtain⟨e2,e3,e4,ef⟩:=HCL.out w3 _ rfl hr3
   have C3:=hideK ((((C1.out.grown hg3 HBK.out).set (i:=j*5+2) hlo hghi (.int .i64 ((kj+1+ll:Nat):Int))).set (i:=j*5+3) hlo hghi (.int .i64 ((kj+2+ll:Nat):Int))).set (i:=j*5+4) hlo hghi (.int .i64 ((kj+3+ll:Nat):Int)))
   have RM:=hideK hrm
   obtain⟨cur3,hcu3⟩:=own_blk hr3
   have ka:=KeepO.grown KO1.out hg3 KT1.out
   obtain⟨kb,cub,hcub⟩:=ka.set (i:=j*5+2) hcu3 (.int .i64 ((kj+1+ll:Nat):Int))
   obtain⟨kc,cuc,hcuc⟩:=kb.set (i:=j*5+3) hcub (.int .i64 ((kj+2+ll:Nat):Int))
   have KO3:=hideK (kc.set (i:=j*5+4) hcuc (.int .i64 ((kj+3+ll:Nat):Int))).1
   clear ka kb kc hcub hcuc hcu3 KO1 KT1
   clear ho3 hg3 hr3 hrm hcell HR1 HCL HM2
   have hs1:((kj+2+ll:Nat):Int)=((kj+1+ll:Nat):Int)+1:=by omega
   have hs2:((kj+3+ll:Nat):Int)=((kj+1+ll:Nat):Int)+1+1:=by omega
   rw[hs1,hs2]at RM C3 KO3
   have hs3:((kj+1+ll:Nat):Int)+1+1+1=((kj+4+ll:Nat):Int):=by omega
   have HS3:=hideK hs3
   have hb9:((kj+1+ll:Nat):Int)<=1099511627776:=by omega
   have hb8:0<=((kj+1+ll:Nat):Int):=by omega
   clear hs1 hs2 hs3
   generalize ((kj+1+ll:Nat):Int)=K1 at RM C3 KO3 HS3 hb8 hb9 ⊢
   go_wp2_with fail
   go_roundw
   case rel=>exact⟨j+1,kj+4+ll,by go_num,by rw[<-HS3.out],by omega,HNX.out.symm,RM.out,C3.out,KO3.out⟩
   case measure=>simp[intOf];omega
  ·obtain rfl:j=n:=by omega
   have HE2:Hid (kj=mkE k (oths m)):=by unfold Hid;rw[HKJ.out,HEE.out]
   have HF:=hideK (HEND.out wr R.out)
   have hltD:decide ((j:Int)<(j:Int))=false:=by simp
   go_wp2_with fail
   go_ret
   exact⟨by rw[<-HE2.out];rfl,HF.out,CH.out,KO.out⟩
end Go.Proofs.YtpddanmnlkcdpaaGreatDoor.Pe


namespace Go.Proofs.YtpddanmnlkcdpaaGreatDoor.Pe
open Go.RowKit
open Kp
open Ls (lowL)
theorem Chg.after {lo hi:Nat} {w w1 w2:World} (hb:Below w.heap.size w w1) (h:Chg lo hi w1 w2):Chg lo hi w w2 :=
 ⟨h.os.trans hb.os,h.tape.trans hb.tape,h.output.trans hb.output,Nat.le_trans hb.size h.size,fun k hk ho=>(h.block k (Nat.lt_of_lt_of_le hk hb.size) ho).trans (hb.block k hk)⟩
theorem RowM.call {W W':World} {lo hi:Nat} {v:Value} {m:List MO} (h:RowM W lo hi v m) (hb:Below W.heap.size W W'):RowM W' lo hi v m:=⟨h.row.below hb,h.has.below hb,h.ap,h.inb⟩
theorem MadeO.rowM {W:World} {base:Nat} {v:Value} {m mo:List MO} (h:MadeO W base v m mo):RowM W base W.heap.size v mo :=
 ⟨h.row,h.has,h.ap,fun _ hg=>World.ownsRow.lt h.row _ hg,fun x hx _ hg=>World.ownsRow.lt (h.has x hx) _ hg⟩
theorem markP_any (z b:Int) (r s:ByteArray) (y:Int) (k lo hi:Nat) (v:Value) (m:List MO) (w:World) (h:RowM w lo hi v m) (hn:m.length<=1048576) (hsm:∀ x∈m,x.1.has.length<=1048576) (h0:0<k) (hk:mkE k (oths m)<=1099511627776) :
  Calls Tryz.prog 12 #[peerV z b r s y v,.int .i64 k] w fun e w'=>e=.returned (.int .i64 (mkE k (oths m):Nat))/\(∃ m',oths m'=mkL k (oths m)/\m'.map (·.2)=m.map (·.2)/\RowM w' lo hi v m')/\Chg lo hi w w'/\KeepO w w':=by
 have C0:=hideK ((Cx.nil w).new (peerO z b r s y v))
 have B0:Hid (Below w.heap.size w (w.alloc (peerO z b r s y v))):=(Below.refl _ _).alloc (Nat.le_refl _) _
 have HM:=hideK (fun W (hW:Below w.heap.size w W)=>markOs_any k lo hi v m W (h.call hW) hn hsm h0 hk)
 obtain⟨a,cap,hv,_,_⟩:=h.row.one
 subst hv
 clear h hsm hk
 generalize mkE k (oths m)=E at HM ⊢
 unfold peerV
 unfold peerO at C0 B0
 go_enter Tryz.func12,Tryz.ntmps12
 go_upto_region 1 with fail
 generalize w.alloc _=W0 at C0 B0 ⊢
 obtain⟨p0,p1,p2,p3,p4,p5⟩:=cellsP6 (C0.out.get 0 rfl)
 go_wp2_with fail
 refine(HM.out _ B0.out).mono ?_
 rintro e w1 ⟨rfl,hm,hc,hko⟩
 have H1:=hideK hm
 have C1:=hideK (Chg.after B0.out hc)
 have KO:=hideK (KeepO.after B0.out hko)
 clear hm hc hko
 go_wp2_with fail
 go_ret
 exact⟨rfl,H1.out,C1.out,KO.out⟩
end Go.Proofs.YtpddanmnlkcdpaaGreatDoor.Pe


namespace Go.Proofs.YtpddanmnlkcdpaaGreatDoor.Pl
open Go.RowKit
open Kp
open Pe
open Ls (lowL)
open St (markT markT_any)
def mkS (k:Nat):ML:=(⟨markT k,((k+1:Nat):Int),((k+2:Nat):Int),markT (k+3),[]⟩,.slice none 0 0)
def mkSs (k n:Nat):List ML:=(List.range n).map fun j=>mkS (k+4*j)
theorem mkSs_length (k n:Nat):(mkSs k n).length=n:=by simp[mkSs]
theorem mkSs_get (k n j:Nat) (h:j<(mkSs k n).length):(mkSs k n)[j]=mkS (k+4*j):=by simp[mkSs]
def midS (m:List ML) (k j:Nat):List ML:=mkSs k j++m.drop j
theorem midS_zero (m:List ML) (k:Nat):midS m k 0=m:=by simp[midS,mkSs]
theorem midS_length (m:List ML) (k j:Nat) (h:j<=m.length):(midS m k j).length=m.length:=by simp[midS,mkSs_length];omega
theorem midS_all (m:List ML) (k:Nat):midS m k m.length=mkSs k m.length:=by simp[midS]
theorem midS_next (m:List ML) (k j:Nat) (h:j<m.length):(midS m k j).set j (mkS (k+4*j))=midS m k (j+1):=by
 have hs:mkSs k (j+1)=mkSs k j++[mkS (k+4*j)]:=by simp[mkSs,List.range_succ]
 unfold midS
 rw[List.set_append,if_neg (by rw[mkSs_length];omega),mkSs_length,Nat.sub_self,List.drop_eq_getElem_cons h,List.set_cons_zero,hs,List.append_assoc]
 rfl
theorem cellsL_set4:∀ (m:List ML) (i:Nat) (x:ML) (h:i<m.length),x.2=m[i].2->cellsL (m.set i x)=((((cellsL m).set (i*5) (.string x.1.who)).set (i*5+1) (.int .i64 x.1.kind)).set (i*5+2) (.int .i64 x.1.index)).set (i*5+3) (.string x.1.piece)
 |y :: m,0,x,_,e=>by
  have e':x.2=y.2:=e
  rw[List.set_cons_zero,cellsL,cellsL,e']
  rfl
 |y :: m,i+1,x,h,e=>by
  rw[List.set_cons_succ,cellsL,cellsL,cellsL_set4 m i x (Nat.lt_of_succ_lt_succ h) e,show (i+1)*5=i*5+5 by omega,show i*5+5+1=(i*5+1)+5 by omega,show i*5+5+2=(i*5+2)+5 by omega,show i*5+5+3=(i*5+3)+5 by omega]
  rfl
def NoPath (m:List ML):Prop:=∀ x∈m,x.2=.slice none 0 0/\x.1.path=[]
theorem mkSs_noPath (k n:Nat):NoPath (mkSs k n):=fun x hx=>by
 unfold mkSs at hx
 obtain⟨j,_,rfl⟩:=List.mem_map.1 hx
 exact⟨rfl,rfl⟩
structure RowL (W:World) (lo hi:Nat) (v:Value) (m:List ML):Prop where
 row:OwnL W lo v m
 inb:∀ g,v.ownBlock=some g->lo<=g/\g<hi
 nop:NoPath m
theorem RowL.call {W W':World} {lo hi:Nat} {v:Value} {m:List ML} (h:RowL W lo hi v m) (hb:Below W.heap.size W W'):RowL W' lo hi v m:=⟨h.row.below hb,h.inb,h.nop⟩
theorem markS_nil (a:Option Addr) (c k:Nat) (w:World) :
  Calls Tryz.prog 52 #[.slice a 0 c,.int .i64 k] w fun e w'=>e=.returned (.int .i64 (k:Int))/\w'=w:=by
 go_enter Tryz.func52,Tryz.ntmps52
 go_wp2_with fail
 go_loopw [5,1] (fun i kv wr=>i=.int .i64 0/\kv=.int .i64 (k:Int)/\wr=w) (fun _ _ _=>0)
 case atStart=>exact⟨rfl,rfl,rfl⟩
 case round =>
  obtain⟨rfl,rfl,hw⟩:=hrel
  subst hw
  go_wp2_with fail
  go_ret
  exact⟨rfl,rfl⟩
theorem markS_round {W w1 w5:World} {lo hi g n cap j kj:Nat} {m:List ML} (h:RowL W lo hi (.slice (some ⟨g,0,none⟩) n cap) m) (hn:m.length=n) (hj:j<m.length) (hb1:Below W.heap.size W w1)
  (hb5:Below (((w1.setCell ⟨g,j*5,none⟩ (.string (markT kj))).setCell ⟨g,j*5+1,none⟩ (.int .i64 ((kj+1:Nat):Int))).setCell ⟨g,j*5+2,none⟩ (.int .i64 ((kj+2:Nat):Int))).heap.size (((w1.setCell ⟨g,j*5,none⟩ (.string (markT kj))).setCell ⟨g,j*5+1,none⟩ (.int .i64 ((kj+1:Nat):Int))).setCell ⟨g,j*5+2,none⟩ (.int .i64 ((kj+2:Nat):Int))) w5) :
  (w1.cell? ⟨g,j*5,none⟩=some (.string m[j].1.who)/\w1.frozen? ⟨g,j*5,none⟩=false) /\
  ((w1.setCell ⟨g,j*5,none⟩ (.string (markT kj))).cell? ⟨g,j*5+1,none⟩=some (.int .i64 m[j].1.kind)/\(w1.setCell ⟨g,j*5,none⟩ (.string (markT kj))).frozen? ⟨g,j*5+1,none⟩=false) /\
  (((w1.setCell ⟨g,j*5,none⟩ (.string (markT kj))).setCell ⟨g,j*5+1,none⟩ (.int .i64 ((kj+1:Nat):Int))).cell? ⟨g,j*5+2,none⟩=some (.int .i64 m[j].1.index)/\((w1.setCell ⟨g,j*5,none⟩ (.string (markT kj))).setCell ⟨g,j*5+1,none⟩ (.int .i64 ((kj+1:Nat):Int))).frozen? ⟨g,j*5+2,none⟩=false) /\
  (w5.cell? ⟨g,j*5+3,none⟩=some (.string m[j].1.piece)/\w5.frozen? ⟨g,j*5+3,none⟩=false) /\
  (w5.setCell ⟨g,j*5+3,none⟩ (.string (markT (kj+3)))).cell? ⟨g,j*5+4,none⟩=some (.slice none 0 0) /\
  RowL (w5.setCell ⟨g,j*5+3,none⟩ (.string (markT (kj+3)))) lo hi (.slice (some ⟨g,0,none⟩) n cap) (m.set j (mkS kj)):=by
 have R0:W.ownsRow lo 114 5 (.slice (some ⟨g,0,none⟩) n cap) n (cellsL m):=by have:=h.row;unfold OwnL at this;rwa[hn]at this
 have hc:=cellsL_at m j hj
 have R1:=own_down R0 hb1
 have R2:=own_set (p:=j*5) R1 (.string (markT kj))
 have R3:=own_set (p:=j*5+1) R2 (.int .i64 ((kj+1:Nat):Int))
 have R4:=own_set (p:=j*5+2) R3 (.int .i64 ((kj+2:Nat):Int))
 have R5:=own_down R4 hb5
 have R6:=own_set (p:=j*5+3) R5 (.string (markT (kj+3)))
 have hx:=h.nop m[j] (List.getElem_mem hj)
 refine⟨own_cell R1 hc.1,own_cell R2 (by rw[List.getElem?_set_ne (by omega)];exact hc.2.1),own_cell R3 (by rw[List.getElem?_set_ne (by omega),List.getElem?_set_ne (by omega)];exact hc.2.2.1),own_cell R5 (by rw[List.getElem?_set_ne (by omega),List.getElem?_set_ne (by omega),List.getElem?_set_ne (by omega)];exact hc.2.2.2.1),?_,?_,h.inb,?_⟩
 ·refine(own_cell R6 ?_).1
  rw[List.getElem?_set_ne (by omega),List.getElem?_set_ne (by omega),List.getElem?_set_ne (by omega),List.getElem?_set_ne (by omega),hc.2.2.2.2,hx.1]
 ·unfold OwnL
  rw[List.length_set,hn,cellsL_set4 m j (mkS kj) hj (by rw[hx.1];rfl)]
  exact R6
 ·intro y hy
  rcases List.mem_or_eq_of_mem_set hy with hy|rfl
  ·exact h.nop y hy
  ·exact⟨rfl,rfl⟩
theorem markSs_any (k lo hi:Nat) (v:Value) (m:List ML) (w:World) (h:RowL w lo hi v m) (hn:m.length<=1048576) (h0:0<k) (hk:k+4*m.length<=1099511627776) :
  Calls Tryz.prog 44 #[v,.int .i64 k] w fun e w'=>e=.returned (.int .i64 ((k+4*m.length:Nat):Int))/\RowL w' lo hi v (mkSs k m.length)/\Chg lo hi w w':=by
 have HS:=hideK h
 obtain⟨a,cap,hv,_,_⟩:=h.row.one
 subst hv
 generalize hnn:m.length=n at hn hk ⊢
 rw[hnn]at HS
 have HN:=hideK hnn
 clear h hnn
 generalize hE:k+4*n=E at hk ⊢
 have HE:=hideK hE
 clear hE
 have HEND:Hid (midS m k n=mkSs k n):=by
  unfold Hid
  rw[<-HN.out]
  exact midS_all m k
 go_enter Tryz.func44,Tryz.ntmps44
 go_wp2_with fail
 go_loopw [5,1] (fun i kv wr=>∃ j kj:Nat,i=.int .i64 j/\kv=.int .i64 (kj:Int)/\j<=n/\kj=k+4*j/\RowL wr lo hi (.slice a n cap) (midS m k j)/\Chg lo hi w wr) (fun i _ _=>n-(intOf i).toNat)
 case atStart=>exact⟨0,k,rfl,rfl,Nat.zero_le _,rfl,by rw[midS_zero];exact HS.out,Chg.refl _ _ _⟩
 case round =>
  obtain⟨j,kj,rfl,rfl,hj,hkj,hrow,hch⟩:=hrel
  have R:=hideK hrow
  have CH:=hideK hch
  have HKJ:=hideK hkj
  have hkb:kj<=E:=by have:=HE.out;omega
  have hk0:0<kj:=by omega
  have hk2:kj<=1099511627776:=by omega
  clear hrow hch hkj
  by_cases hlt:j<n
  ·have hlt':(j:Int)<(n:Int):=by omega
   have hkb3:kj+4<=1099511627776:=by have:=HKJ.out;have:=HE.out;omega
   have hjl:j<m.length:=by rw[HN.out];exact hlt
   have hml:(midS m k j).length=n:=by rw[midS_length m k j (by omega),HN.out]
   have hjm:j<(midS m k j).length:=by omega
   obtain⟨g,cp,hv,hlo,hgz,_,_⟩:=R.out.row.cells (by omega)
   obtain⟨rfl,rfl⟩:a=some ⟨g,0,none⟩/\cap=cp:=by simp at hv;exact⟨hv.1,hv.2.2⟩
   clear hv
   have hghi:=(R.out.inb g rfl).2
   have HRD:=hideK (fun (w1 w5:World) h1 h5=>markS_round (W:=wr) (w1:=w1) (w5:=w5) (j:=j) (kj:=kj) R.out hml hjm h1 h5)
   have HNX:=hideK (midS_next m k j hjl)
   rw[<-HKJ.out]at HNX
   rw[HNX.out]at HRD
   generalize (midS m k j)[j].1=x at HRD
   clear hml HNX
   have HMT:=hideK (fun W=>markT_any kj W hk0 hk2)
   have HMT3:=hideK (fun W=>markT_any (kj+3) W (by omega) (by omega))
   have HMN:=hideK (fun W=>markS_nil none 0 (kj+4) W)
   have HC:=hideK (fun (w1:World) (hb1:Below wr.heap.size wr w1)=>(((CH.out.call hb1).set (i:=j*5) hlo hghi (.string (markT kj))).set (i:=j*5+1) hlo hghi (.int .i64 ((kj+1:Nat):Int))).set (i:=j*5+2) hlo hghi (.int .i64 ((kj+2:Nat):Int)))
   rw[show ((kj+1:Nat):Int)=(kj:Int)+1 by omega,show ((kj+2:Nat):Int)=(kj:Int)+1+1 by omega]at HRD HC
   rw[show ((kj+3:Nat):Int)=(kj:Int)+1+1+1 by omega]at HMT3
   rw[show ((kj+4:Nat):Int)=(kj:Int)+1+1+1+1 by omega]at HMN
   have HK4:Hid ((kj:Int)+1+1+1+1=((kj+4:Nat):Int)):=by unfold Hid;omega
   have hb9:(kj:Int)<=1099511627776:=by omega
   have hb8:0<=(kj:Int):=by omega
   generalize ((kj:Nat):Int)=K at HRD HC HMT3 HMN HMT HK4 hb8 hb9 ⊢
   generalize markT kj=t0 at HRD HC HMT
   generalize markT (kj+3)=t3 at HRD HMT3
   go_wp2_with fail
   refine(HMT.out _).mono ?_
   rintro e w1 ⟨rfl,hb1⟩
   obtain⟨⟨y0,f0⟩,⟨y1,f1⟩,⟨y2,f2⟩,_⟩:=HRD.out w1 _ hb1 (Below.refl _ _)
   have C1:=hideK (HC.out w1 hb1)
   have HR1:=hideK (fun w5=>HRD.out w1 w5 hb1)
   clear hb1 HMT HC HRD
   go_upto_region 10 with fail
   generalize ((w1.setCell ⟨g,j*5,none⟩ (.string t0)).setCell ⟨g,j*5+1,none⟩ (.int .i64 (K+1))).setCell ⟨g,j*5+2,none⟩ (.int .i64 (K+1+1))=W4 at C1 HR1 ⊢
   clear y0 y1 y2 f0 f1 f2
   go_wp2_with fail
   refine(HMT3.out _).mono ?_
   rintro e w5 ⟨rfl,hb5⟩
   obtain⟨_,_,_,⟨y3,f3⟩,y4,hrow5⟩:=HR1.out w5 hb5
   have R5:=hideK hrow5
   have C5:=hideK ((C1.out.call hb5).set (i:=j*5+3) hlo hghi (.string t3))
   clear hb5 HMT3 HR1 hrow5
   go_upto_region 12 with fail
   generalize w5.setCell ⟨g,j*5+3,none⟩ (.string t3)=W6 at R5 C5 y4 ⊢
   go_wp2_with fail
   refine(HMN.out _).mono ?_
   rintro e w7 ⟨rfl,hw⟩
   subst w7
   go_wp2_with fail
   go_roundw
   case rel=>exact⟨j+1,kj+4,by go_num,by rw[<-HK4.out],by omega,by have:=HKJ.out;omega,R5.out,C5.out⟩
   case measure=>simp[intOf];omega
  ·obtain rfl:j=n:=by omega
   have hltD:decide ((j:Int)<(j:Int))=false:=by simp
   have HQ:Hid (RowL wr lo hi (.slice a j cap) (mkSs k j)):=by rw[<-HEND.out];exact R.out
   obtain rfl:kj=E:=by have:=HKJ.out;have:=HE.out;omega
   go_wp2_with fail
   go_ret
   exact⟨rfl,HQ.out,CH.out⟩
end Go.Proofs.YtpddanmnlkcdpaaGreatDoor.Pl


namespace Go.Proofs.YtpddanmnlkcdpaaGreatDoor.Pe
open Go.RowKit
open Kp
open In (Ints OwnI)
open Ls (lowL)
theorem eqO_any (nm:ByteArray) (a a':Option Addr) (n cap cap':Nat) (l:List Int) (q g t:Int) (w:World) (h:Ints w w.heap.size a l) (h':Ints w w.heap.size a' l) (hln:l.length=n) (hn:n<=1048576) :
  Calls Tryz.prog 80 #[.agg #[.string nm,.slice a n cap,.int .i64 q,.int .i64 g,.int .i64 t],.agg #[.string nm,.slice a' n cap',.int .i64 q,.int .i64 g,.int .i64 t]] w fun e w'=>e=.returned (.bool true)/\Below w.heap.size w w':=by
 have C0:=hideK (((Cx.nil w).new (.cells #[.string nm,.slice a n cap,.int .i64 q,.int .i64 g,.int .i64 t] 86)).new (.cells #[.string nm,.slice a' n cap',.int .i64 q,.int .i64 g,.int .i64 t] 86))
 simp only[World.size_alloc]at C0
 have HE:=hideK (fun W (hW:Below w.heap.size w W)=>In.eq_any a a' cap cap' l W W.heap.size ((h.below hW).mono hW.size) ((h'.below hW).mono hW.size) (by rw[hln];exact hn))
 rw[hln]at HE
 clear h h' hln
 have h1:(nm.toList==nm.toList)=true:=by simp
 have h2:(q != q)=false:=by simp
 have h3:(g != g)=false:=by simp
 have h4:(t != t)=false:=by simp
 go_enter Tryz.func80,Tryz.ntmps80
 go_upto_region 1 with fail
 generalize (w.alloc _).alloc _=W0 at C0 ⊢
 obtain⟨p0,p1,p2,p3,p4⟩:=cells5 (C0.out.get 0 rfl)
 obtain⟨q0,q1,q2,q3,q4⟩:=cells5 (C0.out.get 1 rfl)
 go_wp2_with fail
 refine(HE.out _ C0.out.low).mono ?_
 rintro e w1 ⟨rfl,hb⟩
 have C1:=hideK (C0.out.call hb)
 clear hb C0 p0 p1 p2 p3 p4 q0 q1 q2 q3 q4
 obtain⟨p0,p1,p2,p3,p4⟩:=cells5 (C1.out.get 0 rfl)
 obtain⟨q0,q1,q2,q3,q4⟩:=cells5 (C1.out.get 1 rfl)
 go_wp2_with fail
 go_ret
 exact⟨rfl,C1.out.low⟩
theorem eqOs_any (a a':Option Addr) (n cap cap':Nat) (m m':List MO) (w:World) (h:Oths w w.heap.size a m) (h':Oths w w.heap.size a' m') (he:oths m=oths m') (hm:m.length=n) (hn:n<=1048576) (hsm:Small m) :
  Calls Tryz.prog 42 #[.slice a n cap,.slice a' n cap'] w fun e w'=>e=.returned (.bool true)/\Below w.heap.size w w':=by
 have hm':m'.length=n:=by rw[<-hm,<-oths_length m,<-oths_length m',he]
 have HS:=hideK h
 have HS':=hideK h'
 have HM:=hideK hm
 have HM':=hideK hm'
 have HSM:=hideK hsm
 have HEQ:Hid (∀ j (h1:j<m.length) (h2:j<m'.length),m'[j].1=m[j].1):=fun j h1 h2=>by rw[<-oths_get m' j h2,<-oths_get m j h1];simp only[he]
 have hmx:=mixedK
 have hnn:((n:Int) != (n:Int))=false:=by simp
 clear h h' he hm hm' hsm
 go_enter Tryz.func42,Tryz.ntmps42
 go_wp2_with fail
 go_loopw [5] (fun jv wr=>∃ j:Nat,jv=.int .i64 j/\j<=n/\Below w.heap.size w wr) (fun jv _=>n-(intOf jv).toNat)
 case atStart=>exact⟨0,rfl,Nat.zero_le _,Below.refl _ _⟩
 case round =>
  obtain⟨j,rfl,hj,hbel⟩:=hrel
  have GB:=hideK hbel
  clear hbel
  by_cases hlt:j<n
  ·have hlt':(j:Int)<(n:Int):=by omega
   have hjl:j<m.length:=by rw[HM.out];exact hlt
   have hjl':j<m'.length:=by rw[HM'.out];exact hlt
   obtain⟨b,off,rfl,hb,hc⟩:=HS.out.some (by omega)
   obtain⟨b',off',rfl,hb',hc'⟩:=HS'.out.some (by omega)
   obtain⟨d0,d1,d2,d3,d4⟩:=(hc j hjl).below GB.out hb
   obtain⟨e0,e1,e2,e3,e4⟩:=(hc' j hjl').below GB.out hb'
   obtain⟨ax,cx,hxv,_,_,hix⟩:=HS.out.2 m[j] (List.getElem_mem hjl)
   obtain⟨ax',cx',hxv',_,_,hix'⟩:=HS'.out.2 m'[j] (List.getElem_mem hjl')
   have hkx:=(HSM.out m[j] (List.getElem_mem hjl)).1
   rw[HEQ.out j hjl hjl']at e0 e2 e3 e4 hxv' hix'
   rw[hxv]at d1
   rw[hxv']at e1
   have HEO:=hideK (fun W (hW:Below w.heap.size w W)=>eqO_any m[j].1.name ax ax' _ cx cx' m[j].1.has m[j].1.asked m[j].1.age m[j].1.strikes W ((hix.below hW).mono hW.size) ((hix'.below hW).mono hW.size) rfl hkx)
   clear hix hix' hxv hxv' hc hc' hkx
   generalize m[j].1.name=nm at d0 e0 HEO
   generalize m[j].1.has.length=k at d1 e1 HEO
   generalize m[j].1.asked=q at d2 e2 HEO
   generalize m[j].1.age=g at d3 e3 HEO
   generalize m[j].1.strikes=t at d4 e4 HEO
   have r0:=fun d os=>cell_regrown d0 d os
   have r1:=fun d os=>cell_regrown d1 d os
   have r2:=fun d os=>cell_regrown d2 d os
   have r3:=fun d os=>cell_regrown d3 d os
   have r4:=fun d os=>cell_regrown d4 d os
   have s0:=fun d os=>cell_regrown e0 d os
   have s1:=fun d os=>cell_regrown e1 d os
   have s2:=fun d os=>cell_regrown e2 d os
   have s3:=fun d os=>cell_regrown e3 d os
   have s4:=fun d os=>cell_regrown e4 d os
   go_wp2_with fail
   refine wp_region_quiet_below (by assumption) (by kernel_rfl) ?_
   repeat (go_big_quiet_step ((go_at_call 80;exact Calls.regrown_of (HEO.out _ (lowL GB.out (below_regrown _ _ _))))))
   refine wpQuiet_nil ?_
   intro _ hw'
   obtain⟨⟨dq,osq⟩,hw''⟩:=hw'
   subst hw''
   have K1:=hideK (lowL GB.out (below_regrown wr dq osq))
   generalize Go.Sort.grow (redrawn wr dq) osq=w8 at K1 ⊢
   clear r0 r1 r2 r3 r4 s0 s1 s2 s3 s4 d0 d1 d2 d3 d4 e0 e1 e2 e3 e4
   go_wp2_with fail
   go_roundw
   case rel=>exact⟨j+1,by go_num,by omega,K1.out⟩
   case measure=>simp[intOf];omega
  ·have hltD:decide ((j:Int)<(n:Int))=false:=by simp;omega
   have hlt2:¬((j:Int)<(n:Int)):=by omega
   go_wp2_with fail
   go_ret
   exact⟨rfl,GB.out⟩
theorem eqP_any (z b:Int) (r s:ByteArray) (y:Int) (a a':Option Addr) (n cap cap':Nat) (m m':List MO) (w:World) (h:Oths w w.heap.size a m) (h':Oths w w.heap.size a' m') (he:oths m=oths m') (hm:m.length=n) (hn:n<=1048576) (hsm:Small m) :
  Calls Tryz.prog 11 #[peerV z b r s y (.slice a n cap),peerV z b r s y (.slice a' n cap')] w fun e w'=>e=.returned (.bool true)/\Below w.heap.size w w':=by
 have HK:=hideK (fun W=>eqK_same z b r s y W)
 have HO:=hideK (fun W (hW:Below w.heap.size w W)=>eqOs_any a a' n cap cap' m m' W ((h.below hW).mono hW.size) ((h'.below hW).mono hW.size) he hm hn hsm)
 have C0:=hideK (((Cx.nil w).new (peerO z b r s y (.slice a n cap))).new (peerO z b r s y (.slice a' n cap')))
 simp only[World.size_alloc]at C0
 clear h h' hsm
 unfold peerV
 unfold kV at HK
 unfold peerO at C0
 go_enter Tryz.func11,Tryz.ntmps11
 go_wp2_with fail
 generalize (w.alloc _).alloc _=W0 at C0 ⊢
 refine(HK.out _).mono ?_
 rintro e w1 ⟨rfl,hb⟩
 have C1:=hideK (C0.out.call hb)
 clear hb C0
 obtain⟨l0,l1,l2,l3,l4,l5⟩:=cellsP6 (C1.out.get 0 rfl)
 obtain⟨k0,k1,k2,k3,k4,k5⟩:=cellsP6 (C1.out.get 1 rfl)
 go_wp2_with fail
 refine(HO.out _ C1.out.low).mono ?_
 rintro e w2 ⟨rfl,hb⟩
 have C2:=hideK (C1.out.call hb)
 clear hb C1
 go_wp2_with fail
 go_ret
 exact⟨rfl,C2.out.low⟩
end Go.Proofs.YtpddanmnlkcdpaaGreatDoor.Pe


namespace Go.Proofs.YtpddanmnlkcdpaaGreatDoor.Tr
open Go.RowKit
open St
open Sh (Vars nodeV nodeV_size nodeR nodeR_yes node_impl)
def Climbs (w0:World) (f:Value) (φ:ByteArray->ByteArray):Prop :=
 ∃ k cap,f=.func (.func k) #[] cap/\(∀ args w,(callFunc k args).run Tryz.prog w=.ok (.enter k args) w)/\∀ (node:ByteArray) (w:World),node.size=32->Below w0.heap.size w0 w->Vars w ->
  Calls Tryz.prog k (#[.string node]++cap) w fun e w'=>e=.returned (.string (φ node))/\Below w.heap.size w w'
theorem Climbs.later {w w':World} {f:Value} {φ:ByteArray->ByteArray} (h:Climbs w f φ) (b:Below w.heap.size w w'):Climbs w' f φ:=by
 obtain⟨k,cap,hf,he,hc⟩:=h
 exact⟨k,cap,hf,he,fun node W hn hW hV=>hc node W hn (below2 b hW) hV⟩
theorem stay_any (w0:World):Climbs w0 (.func (.func 217) #[] #[]) (fun x=>x):=by
 refine⟨217,#[],rfl,enters_of Tryz.func217 (by kernel_rfl) rfl,fun node w hn hb hV=>?_⟩
 show Calls Tryz.prog 217 #[.string node] w _
 clear hV hb hn
 go_enter Tryz.func217,Tryz.ntmps217
 go_wp2_with fail
 go_ret
 exact⟨rfl,Below.refl _ _⟩
theorem right_call (node side:ByteArray) (k g1 g2:Nat) (cap:Array Value) (φ:ByteArray->ByteArray) (w:World) (hn:node.size=32) (hs:side.size=32) (hV:Vars w)
  (he:∀ args w,(callFunc k args).run Tryz.prog w=.ok (.enter k args) w) (c1:w.cell? ⟨g1,0,none⟩=some (.func (.func k) #[] cap)) (c2:w.cell? ⟨g2,0,none⟩=some (.string side))
  (H:∀ (x:ByteArray) (W:World),x.size=32->Below w.heap.size w W->Vars W->Calls Tryz.prog k (#[.string x]++cap) W fun e w'=>e=.returned (.string (φ x))/\Below W.heap.size W w') :
  Calls Tryz.prog 232 #[.string node,.pointer (some ⟨g1,0,none⟩),.pointer (some ⟨g2,0,none⟩)] w fun e w'=>e=.returned (.string (φ (nodeV node side)))/\Below w.heap.size w w':=by
 have HH:=hideT H
 have HV:=hideT hV
 have hv2:=hV.two
 have HN:=hideT (nodeR_yes node side hn hs)
 have HG:=hideT (World.block_lt_of_cell? w _ c1)
 have HC1:=hideT c1
 clear H hV
 go_enter Tryz.func232,Tryz.ntmps232
 go_wp2_with fail
 go_region_with (first|(go_at_call 233;(with_reducible refine(node_impl node side _ ?_).mono ?_);(· exact HV.out);rw[HN.out];rintro e w1 ⟨rfl,hb1⟩;have HB1:=hideT (show Below w.heap.size w w1 from ⟨hb1.os,hb1.tape,hb1.output,hb1.size,hb1.block⟩);have c1b:=(HB1.out.cell (p:=⟨g1,0,none⟩) HG.out).trans HC1.out;clear hb1)|((with_reducible refine(HH.out (nodeV node side) w1 ?_ HB1.out ?_).mono ?_);(· exact nodeV_size _ _);(· exact HV.out.below HB1.out hv2);rintro e w2 ⟨rfl,hb2⟩;have HB2:=hideT (below2 HB1.out hb2);clear hb2))
 all_goals (try go_wp2_with fail)
 all_goals go_ret
 all_goals exact⟨rfl,HB2.out⟩
theorem left_call (node side:ByteArray) (k g1 g2:Nat) (cap:Array Value) (φ:ByteArray->ByteArray) (w:World) (hn:node.size=32) (hs:side.size=32) (hV:Vars w)
  (he:∀ args w,(callFunc k args).run Tryz.prog w=.ok (.enter k args) w) (c1:w.cell? ⟨g1,0,none⟩=some (.func (.func k) #[] cap)) (c2:w.cell? ⟨g2,0,none⟩=some (.string side))
  (H:∀ (x:ByteArray) (W:World),x.size=32->Below w.heap.size w W->Vars W->Calls Tryz.prog k (#[.string x]++cap) W fun e w'=>e=.returned (.string (φ x))/\Below W.heap.size W w') :
  Calls Tryz.prog 234 #[.string node,.pointer (some ⟨g1,0,none⟩),.pointer (some ⟨g2,0,none⟩)] w fun e w'=>e=.returned (.string (φ (nodeV side node)))/\Below w.heap.size w w':=by
 have HH:=hideT H
 have HV:=hideT hV
 have hv2:=hV.two
 have HN:=hideT (nodeR_yes side node hs hn)
 have HG:=hideT (World.block_lt_of_cell? w _ c1)
 have HC1:=hideT c1
 clear H hV
 go_enter Tryz.func234,Tryz.ntmps234
 go_wp2_with fail
 go_region_with (first|(go_at_call 233;(with_reducible refine(node_impl side node _ ?_).mono ?_);(· exact HV.out);rw[HN.out];rintro e w1 ⟨rfl,hb1⟩;have HB1:=hideT (show Below w.heap.size w w1 from ⟨hb1.os,hb1.tape,hb1.output,hb1.size,hb1.block⟩);have c1b:=(HB1.out.cell (p:=⟨g1,0,none⟩) HG.out).trans HC1.out;clear hb1)|((with_reducible refine(HH.out (nodeV side node) w1 ?_ HB1.out ?_).mono ?_);(· exact nodeV_size _ _);(· exact HV.out.below HB1.out hv2);rintro e w2 ⟨rfl,hb2⟩;have HB2:=hideT (below2 HB1.out hb2);clear hb2))
 all_goals (try go_wp2_with fail)
 all_goals go_ret
 all_goals exact⟨rfl,HB2.out⟩
theorem joinRight_any (side:ByteArray) (f:Value) (φ:ByteArray->ByteArray) (w:World) (hs:side.size=32) (h:Climbs w f φ) :
  Calls Tryz.prog 220 #[.string side,f] w fun e w'=>∃ g,e=.returned g/\Climbs w' g (fun x=>φ (nodeV x side))/\Below w.heap.size w w':=by
 obtain⟨k,cap,rfl,he,hc⟩:=h
 have HE:=hideT he
 have HC:=hideT hc
 clear he hc
 go_enter Tryz.func220,Tryz.ntmps220
 go_wp2_with fail
 go_ret
 refine⟨_,rfl,⟨232,_,rfl,enters_of Tryz.func232 (by kernel_rfl) rfl,fun node W hn hW hV=>?_⟩,((Below.refl _ _).alloc (Nat.le_refl _) _).alloc (by simp) _⟩
 have hsz:=hW.size
 have hb:Below w.heap.size w W:=below2 (((Below.refl _ _).alloc (Nat.le_refl _) _).alloc (by simp) _) hW
 have c1:=hW.cell (p:=⟨w.heap.size+1,0,none⟩) (by simp)
 have c2:=hW.cell (p:=⟨w.heap.size,0,none⟩) (by simp;omega)
 refine right_call node side k (w.heap.size+1) w.heap.size cap φ W hn hs hV HE.out ?_ ?_ (fun x W' hx hW' hV'=>HC.out x W' hx (below2 hb hW') hV')
 ·rw[c1]
  simp
 ·rw[c2]
  simp
theorem joinLeft_any (side:ByteArray) (f:Value) (φ:ByteArray->ByteArray) (w:World) (hs:side.size=32) (h:Climbs w f φ) :
  Calls Tryz.prog 221 #[.string side,f] w fun e w'=>∃ g,e=.returned g/\Climbs w' g (fun x=>φ (nodeV side x))/\Below w.heap.size w w':=by
 obtain⟨k,cap,rfl,he,hc⟩:=h
 have HE:=hideT he
 have HC:=hideT hc
 clear he hc
 go_enter Tryz.func221,Tryz.ntmps221
 go_wp2_with fail
 go_ret
 refine⟨_,rfl,⟨234,_,rfl,enters_of Tryz.func234 (by kernel_rfl) rfl,fun node W hn hW hV=>?_⟩,((Below.refl _ _).alloc (Nat.le_refl _) _).alloc (by simp) _⟩
 have hsz:=hW.size
 have hb:Below w.heap.size w W:=below2 (((Below.refl _ _).alloc (Nat.le_refl _) _).alloc (by simp) _) hW
 have c1:=hW.cell (p:=⟨w.heap.size+1,0,none⟩) (by simp)
 have c2:=hW.cell (p:=⟨w.heap.size,0,none⟩) (by simp;omega)
 refine left_call node side k (w.heap.size+1) w.heap.size cap φ W hn hs hV HE.out ?_ ?_ (fun x W' hx hW' hV'=>HC.out x W' hx (below2 hb hW') hV')
 ·rw[c1]
  simp
 ·rw[c2]
  simp
end Go.Proofs.YtpddanmnlkcdpaaGreatDoor.Tr


namespace Go.Proofs.YtpddanmnlkcdpaaGreatDoor.Tr
open Go.RowKit
open St
open Sh (Vars nodeV)
theorem take_last (p:List ByteArray) (m:Nat) (h:1<=m) (hm:m<=p.length):p.take m=p.take (m-1)++[p[m-1]]:=by
 have:=List.take_append_getElem (l:=p) (i:=m-1) (by omega)
 rw[this,show m-1+1=m by omega]
theorem climbFrom_any (n0 i0:Nat) (p:List ByteArray) (a:Option Addr) (cap B:Nat) (w:World) (hin:i0<n0) (hn:n0<9223372036854775808) (hp:p.length<=1048576) (hcap:p.length<=cap) (hw:∀ j (h:j<p.length),p[j].size=32) (hs:Strs w B a p) (hB:B<=w.heap.size) :
  Calls Tryz.prog 199 #[.int .i64 i0,.int .i64 n0,.slice a p.length cap] w fun e w'=>Below w.heap.size w w'/\((∃ f φ,e=.returned (.tuple #[f,.bool true])/\Climbs w' f φ/\∀ h,incl n0 i0 p h=some (φ h))∨(∃ f,e=.returned (.tuple #[f,.bool false])/\∀ h,incl n0 i0 p h=none)):=by
 have HS:=hideT hs
 have HW:=hideT hw
 clear hs hw
 obtain⟨m0,hm0⟩:∃ m0,m0=p.length:=⟨_,rfl⟩
 have HM:=hideT hm0
 rw[<-hm0]at hp hcap ⊢
 clear hm0
 go_enter Tryz.func199,Tryz.ntmps199
 go_wp2_with fail
 go_loopw [0,1,2,8] (fun iv nv pv uv wr=>∃ (i n m c:Nat) (φ:ByteArray->ByteArray),iv=.int .i64 i/\nv=.int .i64 n/\pv=.slice a m c/\i<n/\n<=n0/\m<=m0/\m<=c/\Climbs wr uv φ/\(∀ h,incl n0 i0 p h=(incl n i (p.take m) h).map φ)/\Below w.heap.size w wr) (fun _ nv _ _ _=>(intOf nv).toNat)
 case atStart =>
  refine⟨i0,n0,m0,cap,fun x=>x,rfl,rfl,rfl,hin,Nat.le_refl _,Nat.le_refl _,hcap,stay_any w,fun h=>?_,Below.refl _ _⟩
  rw[HM.out,List.take_length,Option.map_id']
 case round =>
  obtain⟨i,n,m,c,φ,rfl,rfl,rfl,hi,hn0,hm,hmc,hcl,hinc,hbel⟩:=hrel
  have HB:=hideT hbel
  have HCL:=hideT hcl
  have HI:=hideT hinc
  clear hbel hcl hinc
  by_cases h1:n<=1
  ·obtain rfl:n=1:=by omega
   obtain rfl:i=0:=by omega
   by_cases hm0:m=0
   ·subst hm0
    have HE:Hid (∀ h,incl n0 i0 p h=some (φ h)):=fun h=>by
     rw[HI.out h,incl_one]
     rfl
    go_wp2_with fail
    go_ret2
    exact⟨HB.out,.inl ⟨_,φ,rfl,HCL.out,HE.out⟩⟩
   ·have HE:Hid (∀ h,incl n0 i0 p h=none):=fun h=>by
     rw[HI.out h,incl_one,if_neg (by
      intro he
      have h2:=congrArg List.length he
      rw[List.length_take,List.length_nil]at h2
      have h3:=HM.out
      omega)]
     rfl
    have g0:((m:Int)==0)=false:=by simp;omega
    go_wp2_with fail
    go_ret2
    exact⟨HB.out,.inr ⟨_,rfl,HE.out⟩⟩
  ·have g1:1<(n:Int):=by omega
   by_cases hm0:m=0
   ·subst hm0
    have HE:Hid (∀ h,incl n0 i0 p h=none):=fun h=>by
     rw[HI.out h,List.take_zero,incl_none n i h (by omega)]
     rfl
    go_wp2_with fail
    go_ret2
    exact⟨HB.out,.inr ⟨_,rfl,HE.out⟩⟩
   ·have g0:¬(m:Int)=0:=by omega
    have hml:m-1<p.length:=by have:=HM.out;omega
    obtain⟨b,off,rfl,hb,hc⟩:=(HS.out.after HB.out hB).some (by omega)
    have ci:=hc (m-1) hml
    have HSZ:=hideT (HW.out (m-1) hml)
    have HTL:=hideT (take_last p m (by omega) (by have:=HM.out;omega))
    have HIL:=hideT (fun (s h:ByteArray) (hik:i<half n)=>incl_left n i (p.take (m-1)) s h (by omega) hik)
    have HIR:=hideT (fun (s h:ByteArray) (hik:¬i<half n)=>incl_right n i (p.take (m-1)) s h (by omega) hik hi)
    obtain⟨s,hse⟩:∃ s,s=p[m-1]:=⟨_,rfl⟩
    rw[<-hse]at ci HSZ HTL
    clear hc hse
    have hp2:=half_pos n
    have hl2:=half_lt n (by omega)
    go_wp2_with fail
    refine(cutLast_any b off m c s wr (by omega) (by omega) hmc ci).mono ?_
    rintro e w1 ⟨rfl,hb1⟩
    have HB1:=hideT (HB.out.trans (hb1.mono HB.out.size))
    have HCL1:=hideT (HCL.out.later hb1)
    clear hb1 ci
    go_wp2_with fail
    refine(half_impl n w1 (by omega) (by omega)).mono ?_
    rintro e w2 ⟨rfl,hw2⟩
    subst w2
    obtain⟨k,hk⟩:∃ k,k=half n:=⟨_,rfl⟩
    rw[<-hk]at hp2 hl2 HIL HIR ⊢
    clear hk
    by_cases hik:i<k
    ·go_wp2_with fail
     refine(joinRight_any s _ φ w1 HSZ.out HCL1.out).mono ?_
     rintro e w3 ⟨g,rfl,hg3,hb3⟩
     have HB3:=hideT (HB1.out.trans (hb3.mono HB1.out.size))
     have HG:=hideT hg3
     clear hb3 hg3
     go_wp2_with fail
     go_roundw
     case rel =>
      refine⟨i,k,m-1,m-1,_,rfl,rfl,rfl,hik,by omega,by omega,Nat.le_refl _,HG.out,fun h=>?_,HB3.out⟩
      rw[HI.out h,HTL.out,HIL.out s h hik,Option.map_map]
      rfl
     case measure=>simp[intOf];omega
    ·go_wp2_with fail
     refine(joinLeft_any s _ φ w1 HSZ.out HCL1.out).mono ?_
     rintro e w3 ⟨g,rfl,hg3,hb3⟩
     have HB3:=hideT (HB1.out.trans (hb3.mono HB1.out.size))
     have HG:=hideT hg3
     clear hb3 hg3
     go_wp2_with fail
     go_roundw
     case rel =>
      refine⟨i-k,n-k,m-1,m-1,_,by go_num,by go_num,rfl,by omega,by omega,by omega,Nat.le_refl _,HG.out,fun h=>?_,HB3.out⟩
      rw[HI.out h,HTL.out,HIR.out s h hik,Option.map_map]
      rfl
     case measure=>simp[intOf];omega
theorem str_eq (a b:ByteArray):(a.toList==b.toList)=decide (a=b):=by
 rw[ByteArray.toList_eq,ByteArray.toList_eq]
 by_cases h:a=b
 ·subst h
  simp
 ·rw[decide_eq_false h]
  have:¬a.data.toList=b.data.toList:=fun e=>h (by
   cases a
   cases b
   simp at e
   rw[e])
  simpa using this
def inclB (leaf:ByteArray) (i n:Int) (p:List ByteArray) (root:ByteArray):Bool :=
 decide (leaf.size=32) && decide (root.size=32) && (decide (p.length<=63) && wide p) && decide (0<=i) && decide (i<n) && decide (incl n.toNat i.toNat p leaf=some root)
theorem inclB_leaf (leaf:ByteArray) (i n:Int) (p:List ByteArray) (root:ByteArray) (h:¬leaf.size=32):inclB leaf i n p root=false:=by simp[inclB,h]
theorem inclB_root (leaf:ByteArray) (i n:Int) (p:List ByteArray) (root:ByteArray) (h:¬root.size=32):inclB leaf i n p root=false:=by simp[inclB,h]
theorem inclB_path (leaf:ByteArray) (i n:Int) (p:List ByteArray) (root:ByteArray) (h:(decide (p.length<=63) && wide p)=false):inclB leaf i n p root=false:=by simp only[inclB,h];simp
theorem inclB_low (leaf:ByteArray) (i n:Int) (p:List ByteArray) (root:ByteArray) (h:i<0):inclB leaf i n p root=false:=by simp[inclB,show ¬0<=i by omega]
theorem inclB_high (leaf:ByteArray) (i n:Int) (p:List ByteArray) (root:ByteArray) (h:¬i<n):inclB leaf i n p root=false:=by simp[inclB,h]
theorem inclB_in (leaf:ByteArray) (i n:Nat) (p:List ByteArray) (root:ByteArray) (h1:leaf.size=32) (h2:root.size=32) (h3:(decide (p.length<=63) && wide p)=true) (h:i<n):inclB leaf i n p root=decide (incl n i p leaf=some root):=by
 simp only[inclB,h1,h2,h3]
 simp[h]
theorem incl_impl (leaf root:ByteArray) (i n:Int) (p:List ByteArray) (a:Option Addr) (cap B:Nat) (w:World) (hn:n<9223372036854775808) (hp:p.length<=1048576) (hcap:p.length<=cap) (hs:Strs w B a p) (hB:B<=w.heap.size) (hV:Vars w) :
  Calls Tryz.prog 174 #[.string leaf,.int .i64 i,.int .i64 n,.slice a p.length cap,.string root] w fun e w'=>e=.returned (.bool (inclB leaf i n p root))/\Below w.heap.size w w':=by
 have HD:=hideT (digs_impl a cap p 63 w B hs hp)
 have HCF:=hideT (fun (n' i':Nat) h1 h2 h3=>climbFrom_any n' i' p a cap B w h1 h2 hp hcap h3 hs hB)
 have HV:=hideT hV
 have hv2:=hV.two
 have HPath:=hideT (inclB_path leaf i n p root)
 have HIn:=hideT (inclB_in leaf)
 have HWide:=hideT ((wide_yes p).1)
 clear hs hV
 by_cases h1:leaf.size=32
 ·by_cases h2:root.size=32
  ·cases h3:(decide (p.length<=63) && wide p) with
   |false =>
    have HF:=hideT (HPath.out h3)
    rw[h3]at HD
    clear h3
    clear HCF
    generalize p.length=m at hp hcap HD ⊢
    go_enter Tryz.func174,Tryz.ntmps174
    go_wp2_with fail
    refine HD.out.mono ?_
    rintro e w1 ⟨rfl,hw⟩
    subst w1
    go_wp2_with fail
    go_ret
    exact⟨ret_bool HF.out.symm,Below.refl _ _⟩
   |true =>
    have HT:=hideT h3
    have HW2:Hid (wide p=true):=by
     unfold Hid
     rw[Bool.and_eq_true]at h3
     exact h3.2
    rw[h3]at HD
    clear h3
    by_cases hi0:i<0
    ·have HF:=hideT (inclB_low leaf i n p root hi0)
     clear HCF
     generalize p.length=m at hp hcap HD ⊢
     go_enter Tryz.func174,Tryz.ntmps174
     go_wp2_with fail
     refine HD.out.mono ?_
     rintro e w1 ⟨rfl,hw⟩
     subst w1
     go_wp2_with fail
     go_ret
     exact⟨ret_bool HF.out.symm,Below.refl _ _⟩
    ·by_cases hin:i<n
     ·obtain⟨i',rfl⟩:∃ k:Nat,i=k:=⟨i.toNat,by omega⟩
      obtain⟨n',rfl⟩:∃ k:Nat,n=k:=⟨n.toNat,by omega⟩
      have HF:=hideT (HIn.out i' n' p root h1 h2 HT.out (by omega))
      have HC:=hideT (HCF.out n' i' (by omega) (by omega) (HWide.out HW2.out))
      generalize p.length=m at hp hcap HD HC ⊢
      have g1:¬(n':Int)<=i':=by omega
      clear HCF hi0 hin hn
      go_enter Tryz.func174,Tryz.ntmps174
      go_wp2_with fail
      refine HD.out.mono ?_
      rintro e w1 ⟨rfl,hw⟩
      subst w1
      go_wp2_with fail
      refine HC.out.mono ?_
      rintro e w2 ⟨hb2,⟨f,φ,rfl,hcl,hall⟩|⟨f,rfl,hnone⟩⟩
      ·obtain⟨k,caps,rfl,he,hcall⟩:=hcl
       have HB2:=hideT hb2
       have HE:=hideT (hall leaf)
       have HCall:=hideT (hcall leaf w2 h1 (Below.refl _ _) (HV.out.below hb2 hv2))
       clear hcall hall hb2
       go_wp2_with fail
       refine HCall.out.mono ?_
       rintro e w3 ⟨rfl,hb3⟩
       have HB3:=hideT (below2 HB2.out hb3)
       clear hb3
       have HQ:Hid (inclB leaf i' n' p root=decide (φ leaf=root)):=by
        unfold Hid
        rw[HF.out,HE.out]
        simp
       go_wp2_with fail
       go_ret
       exact⟨ret_bool (by rw[HQ.out];exact str_eq _ _),HB3.out⟩
      ·have HQ:Hid (inclB leaf i' n' p root=false):=by
        unfold Hid
        rw[HF.out,hnone leaf]
        simp
       clear hnone
       go_wp2_with fail
       go_ret
       exact⟨ret_bool HQ.out.symm,hb2⟩
     ·have HF:=hideT (inclB_high leaf i n p root hin)
      have hin':n<=i:=by omega
      clear HCF
      generalize p.length=m at hp hcap HD ⊢
      go_enter Tryz.func174,Tryz.ntmps174
      go_wp2_with fail
      refine HD.out.mono ?_
      rintro e w1 ⟨rfl,hw⟩
      subst w1
      go_wp2_with fail
      go_ret
      exact⟨ret_bool HF.out.symm,Below.refl _ _⟩
  ·have HF:=hideT (inclB_root leaf i n p root h2)
   clear HCF
   generalize p.length=m at hp hcap HD ⊢
   go_enter Tryz.func174,Tryz.ntmps174
   go_wp2_with fail
   go_ret
   exact⟨ret_bool HF.out.symm,Below.refl _ _⟩
 ·have HF:=hideT (inclB_leaf leaf i n p root h1)
  clear HCF
  generalize p.length=m at hp hcap HD ⊢
  go_enter Tryz.func174,Tryz.ntmps174
  go_wp2_with fail
  go_ret
  exact⟨ret_bool HF.out.symm,Below.refl _ _⟩
end Go.Proofs.YtpddanmnlkcdpaaGreatDoor.Tr


/- The program: is a number there, who is asked for it, how many have it. -/
namespace Go.Proofs.YtpddanmnlkcdpaaGreatDoor.Tk
open Go.RowKit
open Kp
open Pe
open Pl
open In (Ints OwnI)
open Ls (lowL blk_alloc)
end Go.Proofs.YtpddanmnlkcdpaaGreatDoor.Tk


/- Blocks that stay while a peer works. -/
namespace Go.Proofs.YtpddanmnlkcdpaaGreatDoor.Tk
open Go.RowKit
open Kp
open Pe
open Pl
def KeepY (W W':World):Prop:=W.heap.size<=W'.heap.size/\∀ (k:Nat) (o:Obj),W.heap[k]? = some o->(∀ (cs:Array Value) (T:TypeId),o=.cells cs T (0,0)->T≠78/\T≠114/\T≠86)->W'.heap[k]? = some o
theorem KeepY.below {W W':World} (h:Below W.heap.size W W'):KeepY W W':=⟨h.size,fun k _ hk _=>(h.block k (lt_rowK hk)).trans hk⟩
theorem KeepY.trans {A B C:World} (h:KeepY A B) (g:KeepY B C):KeepY A C:=⟨Nat.le_trans h.1 g.1,fun k o hk ho=>g.2 k o (h.2 k o hk ho) ho⟩
theorem KeepY.send {g base:Nat} {x:ML} {u:Value} {e z b:Int} {r s:ByteArray} {y:Int} {vo vs:Value} {m:List ML} {w w':World} (h:SendPost g base x u e z b r s y vo vs m w w') (hg:w.heap[g]? = some (wpB u e z b r s y vo vs)) (ho:OwnL w base vs m):KeepY w w':=by
 obtain⟨v',_,_,h3,h4⟩:=h
 refine⟨(h4 0 (Nat.zero_le _) (Nat.zero_le _)).size,fun k o hk hne=>h3 k o hk (fun e=>?_) (fun e=>?_)⟩
 ·subst e
  rw[hg]at hk
  cases hk
  unfold wpB at hne
  exact(hne _ _ rfl).1 rfl
 ·obtain⟨cs,hc⟩:=ho.blk e
  rw[hc]at hk
  cases hk
  exact(hne _ _ rfl).2.1 rfl
theorem KeepY.refl (W:World):KeepY W W:=⟨Nat.le_refl _,fun _ _ hk _=>hk⟩
end Go.Proofs.YtpddanmnlkcdpaaGreatDoor.Tk


namespace Go.Proofs.YtpddanmnlkcdpaaGreatDoor.Tk
open Go.RowKit
open Kp
open Pe
open Pl
open In (Ints OwnI)
open Ls (lowL blk_alloc)
structure WS (w W:World) (gw:Nat) (u:Value) (e z b:Int) (r s:ByteArray) (y:Int) (vo vs:Value) (mo:List MO) (ms:List ML) (mr:List MR):Prop where
 low:Below w.heap.size w W
 gw0:w.heap.size<=gw
 gwb:W.heap[gw]? = some (wpB u e z b r s y vo vs)
 orow:OwnO W w.heap.size vo mo
 has:Hass W w.heap.size mo
 ap:Apart mo
 srow:OwnL W w.heap.size vs ms
 nl:∀ x∈ms,x.2=.slice none 0 0/\x.1.path=[]
 rrow:OwnR W w.heap.size u mr
 rsl:∀ x∈mr,∃ a n cap,x.2=.slice a n cap
theorem WS.call {w W W':World} {gw:Nat} {u:Value} {e z b:Int} {r s:ByteArray} {y:Int} {vo vs:Value} {mo:List MO} {ms:List ML} {mr:List MR} (h:WS w W gw u e z b r s y vo vs mo ms mr) (hb:Below W.heap.size W W'):WS w W' gw u e z b r s y vo vs mo ms mr :=
 ⟨lowL h.low hb,h.gw0,(hb.block gw (lt_rowK h.gwb)).trans h.gwb,h.orow.below hb,h.has.below hb,h.ap,h.srow.below hb,h.nl,h.rrow.below hb,h.rsl⟩
theorem WS.send {w W W':World} {gw:Nat} {u:Value} {e z b:Int} {r s:ByteArray} {y:Int} {vo vs:Value} {mo:List MO} {ms:List ML} {mr:List MR} {x:Snt} (h:WS w W gw u e z b r s y vo vs mo ms mr) (hx:x.path=[]) (hs:SendPost gw w.heap.size (x,.slice none 0 0) u e z b r s y vo vs ms W W'):∃ v',WS w W' gw u e z b r s y vo v' mo (ms++[(x,.slice none 0 0)]) mr:=by
 have hk:=hs.keep h.gwb h.srow
 obtain⟨v',h1,h2,h3,h4⟩:=hs
 refine⟨v',h.low.trans (h4 _ (Nat.le_refl _) h.gw0),h.gw0,h1,own_keepX h.orow hk (by decide) (by decide),fun x hx=>own_keepX (h.has x hx) hk (by decide) (by decide),h.ap,h2,?_,own_keepX h.rrow hk (by decide) (by decide),h.rsl⟩
 intro q hq
 rcases List.mem_append.1 hq with hq|hq
 ·exact h.nl q hq
 ·rw[List.mem_singleton.1 hq]
  exact⟨rfl,hx⟩
theorem WS.oths {w W:World} {gw:Nat} {u:Value} {e z b:Int} {r s:ByteArray} {y:Int} {ao:Option Addr} {no co:Nat} {vs:Value} {mo:List MO} {ms:List ML} {mr:List MR} (h:WS w W gw u e z b r s y (.slice ao no co) vs mo ms mr):Oths W W.heap.size ao mo/\mo.length=no:=MadeO.oths (m:=mo) ⟨rfl,h.orow,h.has,h.ap⟩
def tellL (l:List Oth) (i:Int):List Snt:=(l.filter fun o=>!decide (o.strikes=3)).map fun o=>letterH o.name i
theorem tell_take {m:List MO} {j:Nat} (i:Int) (h:j<m.length):tellL (Pe.oths (m.take (j+1))) i=tellL (Pe.oths (m.take j)) i++(if m[j].1.strikes=3 then [] else [letterH m[j].1.name i]):=by
 unfold tellL
 rw[oths_take h,List.filter_append,List.map_append]
 by_cases hs:m[j].1.strikes=3
 ·simp[hs]
 ·simp[hs]
theorem tell_len (m:List MO) (j:Nat) (i:Int) (h:j<=m.length):(tellL (Pe.oths (m.take j)) i).length<=j:=by
 unfold tellL
 rw[List.length_map]
 refine Nat.le_trans (List.length_filter_le _ _) ?_
 rw[oths_length,List.length_take]
 omega
def Told (w W0:World) (gw:Nat) (u:Value) (e z b:Int) (r s:ByteArray) (y:Int) (vo:Value) (mo:List MO) (ms:List ML) (mr:List MR) (i:Int) (j:Nat) (W:World):Prop:=∃ vs' ms',WS w W gw u e z b r s y vo vs' mo ms' mr/\snts ms'=snts ms++tellL (Pe.oths (mo.take j)) i/\KeepY W0 W
theorem sendHave_any (w W:World) (gw:Nat) (u:Value) (e z b:Int) (r s:ByteArray) (y:Int) (ao:Option Addr) (n co:Nat) (vs:Value) (mo:List MO) (ms:List ML) (mr:List MR) (i:Int) (hw:WS w W gw u e z b r s y (.slice ao n co) vs mo ms mr) (hn:ms.length+n<=1048576) :
  Calls Tryz.prog 99 #[.pointer (some ⟨gw,0,none⟩),.int .i64 i] W fun q w'=>q=.returned (.tuple #[])/\∃ vs' ms',WS w w' gw u e z b r s y (.slice ao n co) vs' mo ms' mr/\snts ms'=snts ms++tellL (Pe.oths mo) i/\KeepY W w':=by
 have HW:=hideK hw
 have HM:=hideK (hw.oths.2)
 have c7:W.cell? ⟨gw,7,none⟩=some (.slice ao n co):=cell_of_row W gw 7 _ _ _ (by have:=hw.gwb;unfold wpB at this;exact this)
 clear hw
 go_enter Tryz.func99,Tryz.ntmps99
 go_wp2_with fail
 go_loopw [11] (fun jv wr=>∃ j:Nat,jv=.int .i64 j/\j<=n/\Told w W gw u e z b r s y (.slice ao n co) mo ms mr i j wr) (fun jv _=>n-(intOf jv).toNat)
 case atStart=>exact⟨0,rfl,Nat.zero_le _,vs,ms,HW.out,by unfold tellL Pe.oths;simp,KeepY.refl _⟩
 case round =>
  obtain⟨j,rfl,hj,vs',ms',hws,hsm,hky⟩:=hrel
  have KY:=hideK hky
  clear hky
  have WJ:=hideK hws
  have SM:=hideK hsm
  have HLN:Hid (ms'.length<=ms.length+j):=by
   have h1:=congrArg List.length hsm
   rw[snts_length,List.length_append,snts_length]at h1
   have h2:=tell_len mo j i (by rw[HM.out];exact hj)
   unfold Hid
   omega
  clear hws hsm
  by_cases hlt:j<n
  ·have hlt':(j:Int)<(n:Int):=by omega
   have hjl:j<mo.length:=by rw[HM.out];exact hlt
   obtain⟨go,cp,hv,_,hgz,_,hcc⟩:=WJ.out.orow.cells (by omega)
   obtain⟨rfl,rfl⟩:ao=some ⟨go,0,none⟩/\co=cp:=by simp at hv;exact⟨hv.1,hv.2.2⟩
   obtain⟨d0,d1,d2,d3,d4⟩:=hcc j hjl
   obtain⟨ax,cx,hxv,_⟩:=(WJ.out.has mo[j] (List.getElem_mem hjl)).ints
   rw[hxv]at d1
   have HT:=hideK (tell_take i hjl)
   generalize mo[j].1.name=nm at d0 HT
   generalize mo[j].1.has.length=k at d1
   generalize mo[j].1.asked=q at d2
   generalize mo[j].1.age=gg at d3
   generalize mo[j].1.strikes=t at d4 HT
   have XB:=hideK (heap_alloc_new wr (.cells #[.string nm,.slice ax k cx,.int .i64 q,.int .i64 gg,.int .i64 t] 86))
   have W1:=hideK (WJ.out.call ((Below.refl _ _).alloc (Nat.le_refl _) (.cells #[.string nm,.slice ax k cx,.int .i64 q,.int .i64 gg,.int .i64 t] 86)))
   have K1:=hideK (KY.out.trans (KeepY.below ((Below.refl _ _).alloc (Nat.le_refl _) (.cells #[.string nm,.slice ax k cx,.int .i64 q,.int .i64 gg,.int .i64 t] 86))))
   have HBA:=hideK (fun W=>banned_any nm ax k cx q gg t W)
   clear hcc hxv hv WJ
   go_upto_region 3 with fail
   generalize wr.alloc (.cells #[.string nm,.slice ax k cx,.int .i64 q,.int .i64 gg,.int .i64 t] 86)=W2 at XB W1 K1 ⊢
   generalize wr.heap.size=g2 at XB ⊢
   obtain⟨e0,e1,e2,e3,e4⟩:=cells5 XB.out
   have hg2:=lt_rowK XB.out
   clear d0 d1 d2 d3 d4
   by_cases ht:t=3
   ·have ht':(t==3)=true:=beq_iff_eq.2 ht
    rw[if_pos ht,List.append_nil]at HT
    rw[ht']at HBA
    clear ht ht'
    go_wp2_with fail
    refine(HBA.out _).mono ?_
    rintro e w3 ⟨rfl,hb⟩
    have W3:=hideK (W1.out.call hb)
    have K3:=hideK (K1.out.trans (KeepY.below hb))
    have SM3:Hid (snts ms'=snts ms++tellL (Pe.oths (mo.take (j+1))) i):=by unfold Hid;rw[HT.out];exact SM.out
    clear hb W1
    go_wp2_with fail
    go_roundw
    case rel=>exact⟨j+1,by go_num,by omega,_,_,W3.out,SM3.out,K3.out⟩
    case measure=>simp[intOf];omega
   ·have ht':(t==3)=false:=by simp[ht]
    rw[if_neg ht]at HT
    rw[ht']at HBA
    clear ht ht'
    go_wp2_with fail
    refine(HBA.out _).mono ?_
    rintro e w3 ⟨rfl,hb⟩
    have W3:=hideK (W1.out.call hb)
    have K3:=hideK (K1.out.trans (KeepY.below hb))
    have y0:=(hb.cell (p:=⟨g2,0,none⟩) hg2).trans e0
    have HSD:=hideK (send_any gw w.heap.size ms'.length (letterH nm i,.slice none 0 0) u _ z b r s y (.slice (some ⟨go,0,none⟩) n co) vs' ms' w3 W3.out.gwb W3.out.srow W3.out.low.size rfl (by have:=HLN.out;omega) ⟨_,_,_,rfl⟩)
    have HNX:=hideK (fun W'=>W3.out.send (W':=W') (x:=letterH nm i) rfl)
    have HK4:=hideK (fun W' (h:SendPost gw w.heap.size (letterH nm i,.slice none 0 0) u _ z b r s y (.slice (some ⟨go,0,none⟩) n co) vs' ms' w3 W')=>K3.out.trans (KeepY.send h W3.out.gwb W3.out.srow))
    unfold letterH at HSD
    dsimp only at HSD
    clear hb W1 W3 e0 e1 e2 e3 e4
    go_wp2_with fail
    refine HSD.out.mono ?_
    rintro e w4 ⟨rfl,hsp⟩
    obtain⟨v4,hws4⟩:=HNX.out w4 hsp
    have K4:=hideK (HK4.out w4 hsp)
    have W4:=hideK hws4
    have SM4:Hid (snts (ms'++[(letterH nm i,Value.slice none 0 0)])=snts ms++tellL (Pe.oths (mo.take (j+1))) i):=by
     have:=SM.out
     unfold Hid
     rw[HT.out,<-List.append_assoc,<-this]
     unfold snts
     rw[List.map_append]
     rfl
    clear hsp hws4 HSD HNX
    go_wp2_with fail
    go_roundw
    case rel=>exact⟨j+1,by go_num,by omega,_,_,W4.out,SM4.out,K4.out⟩
    case measure=>simp[intOf];omega
  ·obtain rfl:j=n:=by omega
   have hltD:decide ((j:Int)<(j:Int))=false:=by simp
   have HE:Hid (snts ms'=snts ms++tellL (Pe.oths mo) i):=by
    have:=SM.out
    rw[List.take_of_length_le (by rw[HM.out];exact Nat.le_refl _)]at this
    exact this
   go_wp2_with fail
   refine bodyPost_end (v:=.tuple #[]) (by simp[results,Tryz.results99,go_sem]) rfl ⟨rfl,?_⟩
   exact⟨_,_,WJ.out,HE.out,KY.out⟩
end Go.Proofs.YtpddanmnlkcdpaaGreatDoor.Tk


/- What is right of the others; a peer at work as an answer. -/
namespace Go.Proofs.YtpddanmnlkcdpaaGreatDoor.Tk
open Go.RowKit
open Kp
open Pe
open Pl
open In (Ints OwnI)
open Ls (blk_alloc lowL HH hh_keep countN countN_le)
structure OthR (c:Int) (o:Oth):Prop where
 a0:0<=o.asked
 a1:o.asked<=c
 g0:0<=o.age
 g1:o.age<=3
 ga:0<o.asked∨o.age=0
 s0:0<=o.strikes
 s1:o.strikes<=3
 rs:RisesTo o.has c o.has.length
theorem othR_of {l:List Oth} {c:Int} (h:othsB l c=true):l.length<=4/\∀ o∈l,OthR c o:=by
 obtain⟨h1,h2⟩:=oths_of h
 refine⟨h1,fun o ho=>?_⟩
 obtain⟨j,hj,rfl⟩:=List.getElem_of_mem ho
 have:=(h2 j hj hj).1
 unfold othB Pe.askB strB at this
 simp only[Bool.and_eq_true,decide_eq_true_eq]at this
 obtain⟨⟨⟨⟨_,h4⟩,h5⟩,h6⟩,_⟩:=this
 exact⟨h5.1,h5.2.1,h5.2.2.1,h5.2.2.2.1,h5.2.2.2.2,h6.1,h6.2,rises_of h4⟩
theorem peer_oths {fit:Rec->Bool} {z b:Int} {r s:ByteArray} {y:Int} {l:List Oth} (h:peerB fit z b r s y l=true):l.length<=4/\∀ o∈l,OthR (countN z b r:Nat) o:=by
 unfold peerB at h
 simp only[Bool.and_eq_true]at h
 exact othR_of h.2
theorem WS.poIn {w W:World} {gw:Nat} {u:Value} {e z b:Int} {r s:ByteArray} {y:Int} {vo vs:Value} {mo:List MO} {ms:List ML} {mr:List MR} (h:WS w W gw u e z b r s y vo vs mo ms mr):PoIn W w.heap.size vo vs mo ms :=
 ⟨h.orow,h.has,h.ap,h.srow,fun x hx=>by rw[(h.nl x hx).1,(h.nl x hx).2];exact St.OwnS.nil _ _,pairwise_all ms fun a ha' _ _ g hg=>by rw[(h.nl a ha').1]at hg;simp[Value.ownBlock]at hg⟩
end Go.Proofs.YtpddanmnlkcdpaaGreatDoor.Tk


namespace Go.Proofs.YtpddanmnlkcdpaaGreatDoor.Tk
open Go.RowKit
open Kp
open Pe
open Pl
open In (Ints OwnI)
open Ls (lowL blk_alloc)
theorem grown_set {W:World} {g i:Nat} (v:Value):W.grownBy (W.setCell ⟨g,i,none⟩ v) (some g) :=
 ⟨rfl,rfl,rfl,by simp,fun q _ hne=>heap_setCell_other W ⟨g,i,none⟩ q v (by exact fun e=>hne (by rw[e]))⟩
theorem grown_more {W W':World} {g i:Nat} (h:W.grownBy W' (some g)) (v:Value):W.grownBy (W'.setCell ⟨g,i,none⟩ v) (some g):=by
 obtain⟨a1,a2,a3,a4,a5⟩:=h
 exact⟨a1,a2,a3,by simp;exact a4,fun q hq hne=>by rw[heap_setCell_other W' _ q _ (by exact fun e=>hne (by rw[e]))];exact a5 q hq hne⟩
theorem snd_set {m:List MO} {j:Nat} (hj:j<m.length) (x:Oth):(m.set j (x,m[j].2)).map (·.2)=m.map (·.2):=by
 rw[List.map_set]
 apply List.ext_getElem?
 intro i
 rw[List.getElem?_set]
 split
 ·rename_i e
  subst e
  simp[hj]
 ·rfl
theorem release_any (g o:Nat) (v2 v3:Int) (w:World) (c2:w.cell? ⟨g,o+2,none⟩=some (.int .i64 v2)) (c3:w.cell? ⟨g,o+3,none⟩=some (.int .i64 v3)) (hf:∀ i,w.frozen? ⟨g,i,none⟩=false) :
  Calls Tryz.prog 126 #[.pointer (some ⟨g,o,none⟩)] w fun e w'=>e=.returned (.tuple #[])/\w'=(w.setCell ⟨g,o+2,none⟩ (.int .i64 0)).setCell ⟨g,o+3,none⟩ (.int .i64 0):=by
 have c3':(w.setCell ⟨g,o+2,none⟩ (.int .i64 0)).cell? ⟨g,o+3,none⟩=some (.int .i64 v3):=by rw[World.cell?_setCell_other _ _ _ _ (by simp)];exact c3
 have f3':(w.setCell ⟨g,o+2,none⟩ (.int .i64 0)).frozen? ⟨g,o+3,none⟩=false:=by simpa using hf (o+3)
 have f2:=hf (o+2)
 go_enter Tryz.func126,Tryz.ntmps126
 go_wp2_with fail
 refine bodyPost_end (v:=.tuple #[]) (by simp[results,Tryz.results126,go_sem]) rfl ⟨rfl,?_⟩
 rfl
def oldL (l:List Oth) (j:Nat):List Oth:=(l.take j).map oldO++l.drop j
theorem oths_set (m:List MO) (j:Nat) (x:MO):Pe.oths (m.set j x)=(Pe.oths m).set j x.1:=by unfold Pe.oths;rw[List.map_set]
def Olds (w W0:World) (gw:Nat) (u:Value) (e z b:Int) (r s:ByteArray) (y:Int) (vo vs:Value) (mo:List MO) (ms:List ML) (mr:List MR) (j:Nat) (W:World):Prop:=∃ mj,WS w W gw u e z b r s y vo vs mj ms mr/\Pe.oths mj=oldL (Pe.oths mo) j/\KeepY W0 W
end Go.Proofs.YtpddanmnlkcdpaaGreatDoor.Tk


/- What is put out: the row of pieces, in plain words. -/
namespace Go.Proofs.YtpddanmnlkcdpaaGreatDoor.Kp
open Go.RowKit
theorem goR_inv {fit:Rec->Bool} {s:ByteArray}:∀ (f e:Nat) (out:List Rec),(∀ x∈out,fit x=true)->out.Pairwise (fun a b=>a.1≠b.1)->(∀ x∈(goR fit s f out e).1,fit x=true)/\(goR fit s f out e).1.Pairwise (fun a b=>a.1≠b.1):=by
 intro f
 induction f with
 |zero=>intro e out h1 h2;exact⟨h1,h2⟩
 |succ f ih =>
  intro e out h1 h2
  by_cases he:e<s.size
  ·rw[goR,if_pos he]
   cases hr:recR s e with
   |none=>exact⟨h1,h2⟩
   |some x =>
    dsimp only
    by_cases hc:fit x.1=true/\hasR out x.1.1=false
    ·rw[if_pos hc]
     refine ih _ _ (fun y hy=>?_) ?_
     ·rcases List.mem_append.1 hy with hy|hy
      ·exact h1 y hy
      ·rw[List.mem_singleton.1 hy];exact hc.1
     ·rw[List.pairwise_append]
      refine⟨h2,List.pairwise_singleton _ _,fun a ha b hb=>?_⟩
      rw[List.mem_singleton.1 hb]
      intro hab
      have h3:=hc.2
      unfold hasR at h3
      rw[List.any_eq_false]at h3
      exact h3 a ha (by simpa using hab)
    ·rw[if_neg hc]
     exact⟨h1,h2⟩
  ·rw[goR_end (by omega)]
   exact⟨h1,h2⟩
theorem allR_fit (fit:Rec->Bool) (s:ByteArray):∀ x∈(allR fit s).1,fit x=true:=(goR_inv _ _ _ (fun _ h=>absurd h List.not_mem_nil) List.Pairwise.nil).1
def outI (n:Nat) (rs:List Rec):List ByteArray:=rs.foldl (fun L x=>L.set x.1.toNat x.2.1) (List.replicate n ⟨#[]⟩)
def outS (n:Nat) (rs:List Rec):List ByteArray:=(List.range n).map fun k=>(pieceR rs (k:Nat)).getD ⟨#[]⟩
end Go.Proofs.YtpddanmnlkcdpaaGreatDoor.Kp


/- The laws' own helpers on rows of texts: the budget of their sizes. -/
namespace Go.Proofs.YtpddanmnlkcdpaaGreatDoor.St
open Go.RowKit
end Go.Proofs.YtpddanmnlkcdpaaGreatDoor.St

