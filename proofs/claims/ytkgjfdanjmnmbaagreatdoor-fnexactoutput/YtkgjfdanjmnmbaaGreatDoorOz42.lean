/- Texts put together: UnBack, UnLaid, KpLaidO, UnAns, LfPlain, UnRead, UnIs, UnIs2. -/
import Derived.Test.YtkgjfdanjmnmbaaGreatDoorOz34
import Derived.Test.YtkgjfdanjmnmbaaGreatDoorOz38
import Derived.Test.YtkgjfdanjmnmbaaGreatDoorOz40
import Derived.Test.YtkgjfdanjmnmbaaGreatDoorOz39
import Derived.Deep.QuietTactic
import Derived.BigQuiet
import Derived.Test.YtkgjfdanjmnmbaaGreatDoorRows
import Derived.OpenShut
import Derived.MakeChecks
import Derived.LaidLaws
import Derived.LaidHandle
import Derived.RowKitTokens
import Derived.Test.YtkgjfdanjmnmbaaGreatDoorOz25
import Derived.Test.YtkgjfdanjmnmbaaGreatDoorOz41
import Derived.Test.YtkgjfdanjmnmbaaGreatDoorOz18
import Derived.Test.YtkgjfdanjmnmbaaGreatDoorOz23
import Derived.Test.YtkgjfdanjmnmbaaGreatDoorOz35
import Derived.LaidEql
import Derived.WalkKit
import Derived.WalkSpells
import Derived.Stop.Asserts
set_option maxRecDepth 100000
set_option maxHeartbeats 8000000
namespace Go.Proofs.YtkgjfdanjmnmbaaGreatDoor.Up
open Pk
open Go.RowKit
open Hf (up)
open Bi (openR getR open_impl)
open Go.Proofs.YtkgjfdanjmnmbaaGreatDoor.So (bwtA unR unR_case unbwt_impl tOut)
open Fr (fbackR frontBack_impl)
open Ze (backR zerosBack_impl backR_len)
open In (Ints)
theorem ints_keep {w w':World} {a:Option Addr} {l:List Int} (h:Ints w w.heap.size a l) (hb:Below w.heap.size w w'):Ints w' w'.heap.size a l:=(h.below hb).mono hb.size
theorem lt_blk {w:World} {g:Nat} {x:Obj} (h:w.heap[g]? = some x):g<w.heap.size:=(Array.getElem?_eq_some_iff.1 h).1
theorem blk_keep {w w':World} {g:Nat} {x:Obj} (h:w.heap[g]? = some x) (hb:Below w.heap.size w w'):w'.heap[g]? = some x:=(hb.block g (lt_blk h)).trans h
theorem low_keep {w0 w w':World} (h:Below w0.heap.size w0 w) (hb:Below w.heap.size w w'):Below w0.heap.size w0 w':=h.trans (hb.mono h.size)
def Glob (w:World) (ev:Value):Prop:=0 < w.heap.size/\w.cell? ⟨0,0,none⟩=some ev
theorem glob_keep {w w':World} {ev:Value} (h:Glob w ev) (hb:Below w.heap.size w w'):Glob w' ev:=⟨Nat.lt_of_lt_of_le h.1 hb.size,(hb.cell (p:=⟨0,0,none⟩) h.1).trans h.2⟩
theorem glob_alloc {w:World} {ev:Value} {o:Obj} (h:Glob w ev):(w.alloc o).cell? ⟨0,0,none⟩=some ev:=(glob_keep h ((Below.refl _ _).alloc (Nat.le_refl _) o)).2
theorem four {W:World} {g:Nat} {x y z u:Value} {t:TypeId} (h:W.heap[g]? = some (.cells #[x,y,z,u] t (0,0))):W.cell? ⟨g,0,none⟩=some x/\W.cell? ⟨g,1,none⟩=some y/\W.cell? ⟨g,2,none⟩=some z/\W.cell? ⟨g,3,none⟩=some u :=
 ⟨cell_of_row W g 0 _ _ _ h,cell_of_row W g 1 _ _ _ h,cell_of_row W g 2 _ _ _ h,cell_of_row W g 3 _ _ _ h⟩
theorem openR_size (p:ByteArray) (m:Int) (hp:p.size<=8000):(openR p m).size<=64000:=by
 by_cases h:8000<p.size∨m<0∨8*(p.size:Int)<m
 ·rw[Bi.openR_no _ _ h]
  decide
 ·obtain⟨k,rfl⟩:=Int.eq_ofNat_of_zero_le (show 0<=m by omega)
  rw[Bi.openR_yes _ _ (by omega) (by omega)]
  refine Nat.le_trans (Nat.le_of_eq (Sh.strF_size _ _)) ?_
  omega
theorem fback_len (l:List Int):(fbackR l).length<=400:=by
 cases h:Ze.numsR l 255 with
 |false=>rw[Fr.fbackR_no h];simp
 |true =>
  rw[Fr.fbackR_yes h]
  have h1:=Fr.kst_full l (Ze.upTo_yes (Ze.numsR_yes h).2) l.length (Nat.le_refl _)
  rw[List.take_length]at h1
  have:=(Ze.numsR_yes h).1
  omega
theorem size_list (l:List UInt8):(⟨l.toArray⟩:ByteArray).size=l.length:=by
 show l.toArray.size=_
 simp
theorem unR_size {t b:ByteArray} {a c:Int} (ht:t.size<=400) (h:unR t a=.agg #[.string b,.int .i64 0,.int .i64 c]):b.size<=400:=by
 unfold unR tOut at h
 split at h
 ·simp at h
  rw[<-h.1]
  decide
 ·split at h
  ·simp at h
   rw[<-h.1]
   decide
  ·split at h
   ·simp at h
    rw[<-h.1,So.backT_size]
    exact ht
   ·simp at h
    rw[<-h.1]
    decide
theorem back_any (x0 x1 x2 x3:Int) (l:List Int) (a:Option Addr) (cap n:Nat) (p:ByteArray) (ev:Value) (w:World) (hl:Ints w w.heap.size a l) (hn:n=l.length) (h4:n<=400) (hp:p.size<=8000) (h0:0 < w.heap.size) (hg:w.cell? ⟨0,0,none⟩=some ev) :
  Calls Tryz.prog 92 #[.agg #[.int .i64 x0,.int .i64 x1,.int .i64 x2,.int .i64 x3],.slice a n cap,.string p] w fun e w'=>(∃ r v,e=.returned (.tuple #[.string r,v])/\(v=.nilIface∨v=ev)/\r.size<=8000/\∀ s b,Good s b->l=up (lenS b)->x1=((bwtA b:Nat):Int)->x2=((symS b).length:Int)->p=bitsS b->r=b/\v=.nilIface)/\Below w.heap.size w w':=by
 have HL:=hideP hl
 have HN:=hideP hn
 have HG:Hid (Glob w ev):=⟨h0,hg⟩
 have BW:=hideP (Below.refl w.heap.size w)
 clear hl hn hg
 go_enter Tryz.func92,Tryz.ntmps92
 go_wp2_with fail
 have hb1:Below w.heap.size w (w.alloc (.cells #[.int .i64 x0,.int .i64 x1,.int .i64 x2,.int .i64 x3] 138)):=(Below.refl _ _).alloc (Nat.le_refl _) _
 have X:Hid ((w.alloc (.cells #[.int .i64 x0,.int .i64 x1,.int .i64 x2,.int .i64 x3] 138)).heap[w.heap.size]? = some (.cells #[.int .i64 x0,.int .i64 x1,.int .i64 x2,.int .i64 x3] 138 (0,0))):=heap_alloc_new w _
 generalize hww:w.alloc (.cells #[.int .i64 x0,.int .i64 x1,.int .i64 x2,.int .i64 x3] 138)=w1 at hb1 X ⊢
 clear hww
 have HL_:=hideP (ints_keep HL.out hb1)
 have BW_:=hideP (low_keep BW.out hb1)
 have HG_:=hideP (glob_keep HG.out hb1)
 clear HL BW HG
 have HL:=HL_
 clear HL_
 have BW:=BW_
 clear BW_
 have HG:=HG_
 clear HG_
 clear hb1
 generalize w.heap.size=gx at X ⊢
 refine(open_impl p _ w1 (by omega)).mono ?_
 rintro e w2 ⟨rfl,hb2⟩
 have HL_:=hideP (ints_keep HL.out hb2)
 have BW_:=hideP (low_keep BW.out hb2)
 have HG_:=hideP (glob_keep HG.out hb2)
 have X_:=hideP (blk_keep X.out hb2)
 clear HL BW HG X
 have HL:=HL_
 clear HL_
 have BW:=BW_
 clear BW_
 have HG:=HG_
 clear HG_
 have X:=X_
 clear X_
 clear hb2
 obtain⟨bits,hbits⟩:∃ x,x=openR p (8*(p.size:Int)):=⟨_,rfl⟩
 rw[<-hbits]
 have HBT:=hideP hbits
 clear hbits
 have hsz:bits.size<=64000:=by rw[HBT.out];exact openR_size p _ hp
 obtain⟨cx0,cx1,cx2,cx3⟩:=four X.out
 have HGI:=hideP (fun (W:World) (h:Ints W W.heap.size a l)=>Bi.get_impl l bits x2 a cap W h (by have:=HN.out;omega) (by omega))
 obtain⟨xl,xa,xc,hx⟩:∃ x y z,getR l bits x2=(x,y,z):=⟨_,_,_,rfl⟩
 have HX:=hideP hx
 rw[hx,<-HN.out]at HGI
 clear hx
 go_wp2_with fail
 refine(HGI.out w2 HL.out).mono ?_
 rintro e w3 ⟨v,rfl,ho,hb3⟩
 clear cx0 cx1 cx2 cx3
 have HL_:=hideP (ints_keep HL.out hb3)
 have BW_:=hideP (low_keep BW.out hb3)
 have HG_:=hideP (glob_keep HG.out hb3)
 have X_:=hideP (blk_keep X.out hb3)
 clear HL BW HG X
 have HL:=HL_
 clear HL_
 have BW:=BW_
 clear BW_
 have HG:=HG_
 clear HG_
 have X:=X_
 clear X_
 clear hb3
 obtain⟨ay,cy,hv,hi⟩:=In.OwnIn.ints ho
 obtain⟨ny,hny⟩:∃ x,x=xl.length:=⟨_,rfl⟩
 rw[<-hny]at hv
 subst hv
 have NY:=hideP hny
 have IY:=hideP hi
 clear hny hi ho HGI
 have ey:ny<=400:=by
  have:=Bi.getR_length l bits x2
  rw[HX.out]at this
  rw[NY.out]
  exact this
 have HEND:Hid (∀ (r:ByteArray) (v:Value),(∀ s b,Good s b->getR (up (lenS b)) (openR (bitsS b) (8*((bitsS b).size:Int))) ((symS b).length:Int)=(xl,xa,xc)->x1=((bwtA b:Nat):Int)->r=b/\v=.nilIface)->∀ s b,Good s b->l=up (lenS b)->x1=((bwtA b:Nat):Int)->x2=((symS b).length:Int)->p=bitsS b->r=b/\v=.nilIface):=fun r v h s b hg h1 h2 h3 h5=>by
  refine h s b hg ?_ h2
  rw[<-HX.out,HBT.out,h1,h3,h5]
 by_cases hc:xc=0
 ·subst hc
  go_wp2_with fail
  have hb4:Below w3.heap.size w3 (w3.alloc (.cells #[.slice ay ny cy,.int .i64 xa,.int .i64 0] 122)):=(Below.refl _ _).alloc (Nat.le_refl _) _
  generalize hww:w3.alloc (.cells #[.slice ay ny cy,.int .i64 xa,.int .i64 0] 122)=w4 at hb4 ⊢
  clear hww
  have HL_:=hideP (ints_keep HL.out hb4)
  have BW_:=hideP (low_keep BW.out hb4)
  have HG_:=hideP (glob_keep HG.out hb4)
  have X_:=hideP (blk_keep X.out hb4)
  have IY_:=hideP (ints_keep IY.out hb4)
  clear HL BW HG X IY
  have HL:=HL_
  clear HL_
  have BW:=BW_
  clear BW_
  have HG:=HG_
  clear HG_
  have X:=X_
  clear X_
  have IY:=IY_
  clear IY_
  clear hb4
  have HZI:=hideP (fun (W:World) (h:Ints W W.heap.size ay xl)=>zerosBack_impl xl ay cy W.heap.size W h (Nat.le_refl _) (by have:=NY.out;omega))
  rw[<-NY.out]at HZI
  refine(HZI.out w4 IY.out).mono ?_
  rintro e w5 ⟨v5,rfl,ho5,hb5⟩
  have HL_:=hideP (ints_keep HL.out hb5)
  have BW_:=hideP (low_keep BW.out hb5)
  have HG_:=hideP (glob_keep HG.out hb5)
  have X_:=hideP (blk_keep X.out hb5)
  have IY_:=hideP (ints_keep IY.out hb5)
  clear HL BW HG X IY
  have HL:=HL_
  clear HL_
  have BW:=BW_
  clear BW_
  have HG:=HG_
  clear HG_
  have X:=X_
  clear X_
  have IY:=IY_
  clear IY_
  clear hb5
  obtain⟨az,cz,hv,_,hi⟩:=ho5.ints
  obtain⟨nz,hnz⟩:∃ x,x=(backR xl).length:=⟨_,rfl⟩
  rw[<-hnz]at hv
  subst hv
  have NZ:=hideP hnz
  have IZ:=hideP hi
  clear hnz hi ho5
  have ez:nz<=400:=by rw[NZ.out];exact backR_len _
  have HFI:=hideP (fun (W:World) (h:Ints W W.heap.size az (backR xl))=>frontBack_impl (backR xl) az cz W.heap.size W h (Nat.le_refl _) (by have:=NZ.out;omega))
  rw[<-NZ.out]at HFI
  go_wp2_with fail
  refine(HFI.out w5 IZ.out).mono ?_
  rintro e w6 ⟨rfl,hb6⟩
  have HL_:=hideP (ints_keep HL.out hb6)
  have BW_:=hideP (low_keep BW.out hb6)
  have HG_:=hideP (glob_keep HG.out hb6)
  have X_:=hideP (blk_keep X.out hb6)
  have IY_:=hideP (ints_keep IY.out hb6)
  clear HL BW HG X IY
  have HL:=HL_
  clear HL_
  have BW:=BW_
  clear BW_
  have HG:=HG_
  clear HG_
  have X:=X_
  clear X_
  have IY:=IY_
  clear IY_
  clear hb6
  have hfs:(fbackR (backR xl)).length<=400:=fback_len _
  obtain⟨tx,htx⟩:∃ x:ByteArray,x=⟨(fbackR (backR xl)).toArray⟩:=⟨_,rfl⟩
  have hts:tx.size<=400:=by rw[htx,size_list];exact hfs
  rw[<-htx]
  have HTX:=hideP htx
  clear htx hfs
  obtain⟨cx0,cx1,cx2,cx3⟩:=four X.out
  go_wp2_with fail
  refine(unbwt_impl tx x1 w6 (by omega)).mono ?_
  rintro e w7 ⟨rfl,hb7⟩
  clear cx0 cx1 cx2 cx3
  have HL_:=hideP (ints_keep HL.out hb7)
  have BW_:=hideP (low_keep BW.out hb7)
  have HG_:=hideP (glob_keep HG.out hb7)
  have X_:=hideP (blk_keep X.out hb7)
  have IY_:=hideP (ints_keep IY.out hb7)
  clear HL BW HG X IY
  have HL:=HL_
  clear HL_
  have BW:=BW_
  clear BW_
  have HG:=HG_
  clear HG_
  have X:=X_
  clear X_
  have IY:=IY_
  clear IY_
  clear hb7
  obtain⟨yb,yc,hy⟩:=unR_case tx x1
  have HY:=hideP hy
  have HYS:Hid (yb.size<=400):=unR_size (by omega) hy
  rw[hy]
  clear hy
  have HTT:Hid (∀ s b,Good s b->getR (up (lenS b)) (openR (bitsS b) (8*((bitsS b).size:Int))) ((symS b).length:Int)=(xl,xa,0)->x1=((bwtA b:Nat):Int)->yb=b/\yc=0):=fun s b hg h1 h2=>by
   rw[bits_back hg]at h1
   have e1:symS b=xl:=congrArg Prod.fst h1
   have h3:=block_back hg.1
   rw[e1,<-HTX.out,<-h2,HY.out]at h3
   unfold tOut at h3
   simp at h3
   exact h3
  by_cases hyc:yc=0
  ·subst hyc
   go_wp2_with fail
   go_ret2
   refine⟨⟨yb,.nilIface,rfl,.inl rfl,by have:=HYS.out;omega,HEND.out _ _ fun s b h1 h2 h3=>⟨(HTT.out s b h1 h2 h3).1,rfl⟩⟩,?_⟩
   exact low_keep BW.out ((Below.refl _ _).alloc (Nat.le_refl _) _)
  ·have hyc':(yc != 0)=true:=by simp;exact hyc
   have gcell:=fun o=>glob_alloc (w:=w7) (o:=o) HG.out
   go_wp2_with fail
   go_quiet (fail)
   go_wp2_with fail
   go_ret2
   refine⟨⟨⟨#[]⟩,ev,rfl,.inr rfl,by decide,HEND.out _ _ fun s b h1 h2 h3=>absurd (HTT.out s b h1 h2 h3).2 hyc⟩,?_⟩
   exact below_drewN (low_keep BW.out ((Below.refl _ _).alloc (Nat.le_refl _) _)) _
 ·have hc':(xc != 0)=true:=by simp;exact hc
  have gcell:=fun o=>glob_alloc (w:=w3) (o:=o) HG.out
  go_wp2_with fail
  go_quiet (fail)
  go_wp2_with fail
  go_ret2
  refine⟨⟨⟨#[]⟩,ev,rfl,.inr rfl,by decide,HEND.out _ _ fun s b h1 h2 _=>?_⟩,?_⟩
  ·rw[bits_back h1]at h2
   exact absurd (congrArg (fun q=>q.2.2) h2).symm hc
  ·exact below_drewN (low_keep BW.out ((Below.refl _ _).alloc (Nat.le_refl _) _)) _
end Go.Proofs.YtkgjfdanjmnmbaaGreatDoor.Up


namespace Go.Proofs.YtkgjfdanjmnmbaaGreatDoor.Up
open Go.RowKit
theorem gNoBlock:Tryz.prog.globalNamed "loop.example/g00550/impl.errNoBlock"=some 0:=by kernel_rfl
theorem tNoBlock:(Tryz.prog.globals[0]?).map (·.type)=some 82:=by kernel_rfl
theorem cellsErrS:Tryz.prog.cellsOf 284=1:=by kernel_rfl
theorem cellsStr:Tryz.prog.cellsOf 9=1:=by kernel_rfl
theorem starErr: "*"++ "errors.errorString"= "*errors.errorString":=by decide
theorem rowErr (u:TypeId) (h:Tryz.prog.typeName? 3 u=some "*errors.errorString"):u=265 :=
 typeName_ptr_named (nm:= "errors.errorString") (by rw[starErr];kernel_rfl) (by kernel_rfl) (by decide) u (by rw[starErr];exact h)
theorem trodVars_length {H:Type} {enc:TypeId × Value->H} {P:Program} {w:World} {sp:Nat->Bool}:∀ {ns:List String} {gs:List (DataW H)} {ps:List MemPlace},DataW.TrodVars enc P w sp ns gs ps->gs.length=ns.length
 |[],[],_,_=>rfl
 |[],_ :: _,_,h=>h.elim
 |_ :: _,[],_,h=>h.elim
 |n :: ns,d :: ds,ps,h=>by
  obtain⟨g,t,cs,fuel,p,q,h1,h2,h3,h4,hs,e⟩:=h
  show ds.length+1=ns.length+1
  rw[trodVars_length hs]
theorem list3 {α:Type} {l:List α} (h:l.length=3):∃ a b c,l=[a,b,c]:=by
 match l,h with
 |[a,b,c],_=>exact⟨a,b,c,rfl⟩
theorem glob_of_met {W:World} (h:laidMet Tryz.prog [("loop.example/g00550/impl.errNoBlock",Rows.laid_loop_example_g00550_impl_errNoBlock)] W):∃ a:Addr,Glob W (.iface 265 (.pointer (some a))):=by
 obtain⟨ps,⟨g0,t0,cs0,f0,p0,q0,hg0,ht0,hv0,hd0,hq0,e0⟩,hnd,hrows⟩:=h
 obtain rfl:=Option.some.inj (gNoBlock.symm.trans hg0)
 obtain rfl:=Option.some.inj (tNoBlock.symm.trans ht0)
 have hq':q0=[]:=hq0
 subst hq'
 subst e0
 obtain⟨l0⟩:=cs0
 have ok0:∀ u v,l0=[.iface u v]->Value.okWide Tryz.prog W .any 0 u v:=fun u v e=>by
  subst e
  exact(hrows 0 0 (by simp[MemPlace.row])).2 u v (by simpa using World.var?_cell hg0 hv0 0)
 obtain⟨a0,s0,rfl,hc0,hs0,hz0,rfl⟩:=errorString_of_trod Tryz.underlying82 rowErr Tryz.underlying265 Tryz.underlying284 rfl rfl Tryz.underlying9 cellsErrS cellsStr hd0 ok0
 have hc:W.cell? ⟨0,0,none⟩=some (.iface 265 (.pointer (some a0))):=by simpa using World.var?_cell gNoBlock hv0 0
 refine⟨a0,?_,hc⟩
 rcases Nat.lt_or_ge 0 W.heap.size with h|h
 ·exact h
 ·simp[World.cell?,Array.getElem?_eq_none h]at hc
end Go.Proofs.YtkgjfdanjmnmbaaGreatDoor.Up


/- What a row's list of four variables gives a walk. -/
namespace Go.Proofs.YtkgjfdanjmnmbaaGreatDoor.Kp
open Go.RowKit Go.ChangeShapes Go.WideShapes Go.ChangeAt Go.Deep
open Ls (HH)
open Sh (Vars)
open Up (Glob)
theorem laid_tail {P:Program} {x:String × DataW Unit} {l:List (String × DataW Unit)} {w:World} (h:laidMet P (x :: l) w):laidMet P l w:=by
 obtain⟨ps,⟨g0,t0,cs0,f0,p0,q0,hg0,ht0,hv0,hd0,hq0,e0⟩,hn,hr⟩:=h
 subst e0
 exact⟨q0,hq0,(List.nodup_append.1 hn).2.1,fun b off hm=>hr b off (List.mem_append_right _ hm)⟩
theorem laid_front {P:Program} {x y z:String × DataW Unit} {w:World} (h:laidMet P [x,y,z] w):laidMet P [x,y] w:=by
 obtain⟨ps,⟨g0,t0,cs0,f0,p0,q0,hg0,ht0,hv0,hd0,⟨g1,t1,cs1,f1,p1,q1,hg1,ht1,hv1,hd1,hq1,e1⟩,e0⟩,hn,hr⟩:=h
 subst e1
 subst e0
 have hsub:(MemPlace.row ⟨g0,0,none⟩ cs0.size++p0++(MemPlace.row ⟨g1,0,none⟩ cs1.size++p1++[])).Sublist (MemPlace.row ⟨g0,0,none⟩ cs0.size++p0++(MemPlace.row ⟨g1,0,none⟩ cs1.size++p1++q1)) :=
  (List.Sublist.refl _).append ((List.Sublist.refl _).append (List.nil_sublist _))
 exact⟨_,⟨g0,t0,cs0,f0,p0,_,hg0,ht0,hv0,hd0,⟨g1,t1,cs1,f1,p1,[],hg1,ht1,hv1,hd1,rfl,rfl⟩,rfl⟩,List.Pairwise.sublist hsub hn,fun b off hm=>hr b off (hsub.subset hm)⟩
theorem all_of_laid {W:World} (h:laidMetH Tryz.prog [("errors.errorType",Rows.laid_errors_errorType),("loop.example/g00550/impl.firstState",Rows.laid_loop_example_g00550_impl_firstState),("loop.example/g00550/impl.roundNumbers",Rows.laid_loop_example_g00550_impl_roundNumbers),("loop.example/g00550/impl.errNoBlock",Rows.laid_loop_example_g00550_impl_errNoBlock)] W):HH W/\Vars W/\∃ a:Addr,Glob W (.iface 265 (.pointer (some a))):=by
 have h':laidMet Tryz.prog [("loop.example/g00550/impl.firstState",Rows.laid_loop_example_g00550_impl_firstState),("loop.example/g00550/impl.roundNumbers",Rows.laid_loop_example_g00550_impl_roundNumbers),("loop.example/g00550/impl.errNoBlock",Rows.laid_loop_example_g00550_impl_errNoBlock)] W/\handlesMet Tryz.prog [("errors.errorType",Rows.laid_errors_errorType)] W:=h
 have h2:=both_of_laid (W:=W) (show laidMet Tryz.prog [("loop.example/g00550/impl.firstState",Rows.laid_loop_example_g00550_impl_firstState),("loop.example/g00550/impl.roundNumbers",Rows.laid_loop_example_g00550_impl_roundNumbers)] W/\handlesMet Tryz.prog [("errors.errorType",Rows.laid_errors_errorType)] W from ⟨laid_front h'.1,h'.2⟩)
 exact⟨h2.1,h2.2,Up.glob_of_met (laid_tail (laid_tail h'.1))⟩
end Go.Proofs.YtkgjfdanjmnmbaaGreatDoor.Kp


/- Plain mathematics of BlockUnpack: what it answers, whatever text it is given. -/
namespace Go.Proofs.YtkgjfdanjmnmbaaGreatDoor.Up
open Pk
open Se (sealV unsealV outV unseal_back unsealV_yes unsealV_no)
open Sh (bt)
theorem unseal_case (s:ByteArray):(∃ t,unsealV s=outV t 0 0/\sealV t=s/\t.size<=7996/\4<=s.size)∨∃ c:Int,¬c=0/\unsealV s=outV ⟨#[]⟩ 0 c:=by
 by_cases h1:8000<s.size
 ·refine .inr ⟨2,by decide,?_⟩
  unfold unsealV
  rw[if_pos h1]
 ·by_cases h2:s.size<4
  ·refine .inr ⟨4,by decide,?_⟩
   unfold unsealV
   rw[if_neg h1,if_pos h2]
  ·by_cases h:sealV (s.extract 0 (s.size-4))=s
   ·refine .inl ⟨_,unsealV_yes s _ h1 h2 rfl h,h,?_,by omega⟩
    rw[ByteArray.size_extract]
    omega
   ·exact .inr ⟨5,by decide,unsealV_no s _ h1 h2 rfl h⟩
noncomputable def ansT (t:ByteArray):Value:=open Classical in if h:∃ b:ByteArray,b.size<=48/\innerV b=t then outV (Classical.choose h) 0 0 else outV ⟨#[]⟩ 0 3
noncomputable def ansU (s:ByteArray):Value:=open Classical in if h:∃ t,unsealV s=outV t 0 0 then ansT (Classical.choose h) else unsealV s
theorem ansU_yes {s t:ByteArray} (h:unsealV s=outV t 0 0):ansU s=ansT t:=by
 have hx:∃ t,unsealV s=outV t 0 0:=⟨t,h⟩
 unfold ansU
 rw[dif_pos hx]
 have e:=h.symm.trans (Classical.choose_spec hx)
 generalize Classical.choose hx=c at e ⊢
 unfold outV at e
 simp at e
 rw[e]
theorem ansU_no {s:ByteArray} {c:Int} (h0:¬c=0) (h:unsealV s=outV ⟨#[]⟩ 0 c):ansU s=outV ⟨#[]⟩ 0 c:=by
 have hx:¬∃ t,unsealV s=outV t 0 0:=by
  rintro⟨t,ht⟩
  rw[h]at ht
  unfold outV at ht
  simp at ht
  exact h0 ht.2
 unfold ansU
 rw[dif_neg hx,h]
theorem inner_size {b:ByteArray} (h:b.size<=48):(innerV b).size<=49:=by
 unfold innerV
 split
 ·omega
 ·rw[plainV_size];omega
theorem pack_inner {s t b:ByteArray} (h:sealV t=s) (ht:t.size<=7996) (h4:4<=s.size):packB b=s↔b.size<=48/\innerV b=t:=by
 unfold packB
 by_cases hb:48<b.size
 ·rw[if_pos hb]
  constructor
  ·intro e
   rw[<-e]at h4
   exact absurd h4 (by decide)
  ·intro e
   omega
 ·rw[if_neg hb]
  have hi:=inner_size (b:=b) (by omega)
  constructor
  ·intro e
   refine⟨by omega,?_⟩
   have h1:=unseal_back (innerV b) (by omega)
   have h2:=unseal_back t ht
   rw[e,<-h]at h1
   rw[h1]at h2
   unfold outV at h2
   simp at h2
   exact h2
  ·intro e
   rw[e.2,h]
theorem ansT_read {s t r:ByteArray} (h:sealV t=s) (ht:t.size<=7996) (h4:4<=s.size) (hr:∀ b:ByteArray,b.size<=48->innerV b=t->r=b):(packB r=s->ansT t=outV r 0 0)/\(¬packB r=s->ansT t=outV ⟨#[]⟩ 0 3):=by
 refine⟨fun e=>?_,fun e=>?_⟩
 ·have hx:∃ b:ByteArray,b.size<=48/\innerV b=t:=⟨r,(pack_inner h ht h4).1 e⟩
  unfold ansT
  rw[dif_pos hx]
  have:=Classical.choose_spec hx
  rw[<-hr _ this.1 this.2]
 ·unfold ansT
  rw[dif_neg]
  rintro⟨b,h1,h2⟩
  refine e ?_
  rw[hr b h1 h2]
  exact(pack_inner h ht h4).2 ⟨h1,h2⟩
theorem ansT_none {t:ByteArray} (hr:∀ b:ByteArray,b.size<=48->¬innerV b=t):ansT t=outV ⟨#[]⟩ 0 3:=by
 unfold ansT
 rw[dif_neg]
 rintro⟨b,h1,h2⟩
 exact hr b h1 h2
theorem inner_case {t b:ByteArray} (h:b.size<=48) (ht:innerV b=t):(Good t b/\0<t.size/\bt t 0=1)∨(t=plainV b/\0<t.size/\bt t 0=0/\t.extract 1 t.size=b):=by
 unfold innerV at ht
 split at ht
 ·rename_i hc
  refine .inl ⟨⟨h,ht.symm,hc⟩,?_,?_⟩
  ·rw[<-ht]
   show 0<(shortL b).toArray.size
   rw[List.size_toArray]
   unfold shortL
   simp
  ·rw[<-ht]
   rfl
 ·refine .inr ⟨ht.symm,?_,?_,?_⟩
  ·rw[<-ht,plainV_size];omega
  ·rw[<-ht]
   rfl
  ·rw[<-ht]
   refine Bi.ext_list ?_
   rw[ByteArray.data_extract,Array.toList_extract,List.extract_eq_take_drop,plainV_size]
   show (List.drop 1 (0 :: b.data.toList)).take _=_
   rw[List.drop_one,List.tail_cons,List.take_of_length_le]
   rw[Array.length_toList]
   show b.size<=_
   omega
end Go.Proofs.YtkgjfdanjmnmbaaGreatDoor.Up


/- What FileOf puts together: plain mathematics. -/
namespace Go.Proofs.YtkgjfdanjmnmbaaGreatDoor.Ls
open Go.RowKit
open Up (ansU ansT ansU_yes ansU_no unseal_case)
open Se (outV)
open Pk (cat)
noncomputable def blkT (s:ByteArray):Option ByteArray:=open Classical in if h:∃ t,ansU s=outV t 0 0 then some (Classical.choose h) else none
theorem outV_same {t u:ByteArray} {c d:Int} (h:outV t 0 c=outV u 0 d):t=u/\c=d:=by
 unfold outV at h
 simp at h
 exact h
theorem ansU_out (s:ByteArray):∃ t c,ansU s=outV t 0 c:=by
 rcases unseal_case s with⟨t,h,_⟩|⟨c,h0,h⟩
 ·rw[ansU_yes h]
  unfold ansT
  split<;>exact⟨_,_,rfl⟩
 ·rw[ansU_no h0 h]
  exact⟨_,_,rfl⟩
theorem blkT_yes {s t:ByteArray} (h:ansU s=outV t 0 0):blkT s=some t:=by
 have hx:∃ t,ansU s=outV t 0 0:=⟨t,h⟩
 unfold blkT
 rw[dif_pos hx]
 have:=h.symm.trans (Classical.choose_spec hx)
 rw[<-(outV_same this).1]
theorem blkT_no {s t:ByteArray} {c:Int} (h:ansU s=outV t 0 c) (hc:¬c=0):blkT s=none:=by
 unfold blkT
 rw[dif_neg]
 rintro⟨u,hu⟩
 rw[h]at hu
 exact hc (outV_same hu).2
def mustN (z b:Int) (i:Nat):Int:=min b (z-i*b)
noncomputable def fileL (z b:Int):Nat->List ByteArray->List ByteArray
 |_,[]=>[]
 |i,p :: ps=>match blkT p with
  |none=>[]
  |some t=>if (t.size:Int)=mustN z b i then t :: fileL z b (i+1) ps else []
theorem fileL_next {z b:Int} {i:Nat} {p t:ByteArray} {ps:List ByteArray} (h:blkT p=some t) (hz:(t.size:Int)=mustN z b i):fileL z b i (p :: ps)=t :: fileL z b (i+1) ps:=by
 rw[fileL,h]
 exact if_pos hz
theorem fileL_none {z b:Int} {i:Nat} {p:ByteArray} {ps:List ByteArray} (h:blkT p=none):fileL z b i (p :: ps)=[]:=by
 rw[fileL,h]
theorem fileL_size {z b:Int} {i:Nat} {p t:ByteArray} {ps:List ByteArray} (h:blkT p=some t) (hz:¬(t.size:Int)=mustN z b i):fileL z b i (p :: ps)=[]:=by
 rw[fileL,h]
 exact if_neg hz
noncomputable def fileV (z b:Int) (r:ByteArray) (l:List ByteArray):ByteArray:=if 400<l.length then ⟨#[]⟩ else ⟨(cat (fileL z b 0 (l.take (countN z b r)))).toArray⟩
def FileF (z b:Int) (q:List ByteArray) (k:Nat) (D:List ByteArray):Prop:=D.length=k/\(∀ x∈D,(x.size:Int)<=b)/\fileL z b 0 q=D++fileL z b k (q.drop k)
theorem file_none (z b:Int) (q:List ByteArray):FileF z b q 0 []:=⟨rfl,fun _ h=>absurd h (List.not_mem_nil),rfl⟩
theorem file_next {z b:Int} {q D:List ByteArray} {k:Nat} {t:ByteArray} (h:FileF z b q k D) (hk:k<q.length) (ht:blkT q[k]=some t) (hz:(t.size:Int)=mustN z b k):FileF z b q (k+1) (D++[t]):=by
 refine⟨by rw[List.length_append,h.1];rfl,fun x hx=>?_,?_⟩
 ·rcases List.mem_append.1 hx with h1|h1
  ·exact h.2.1 x h1
  ·rw[List.mem_singleton]at h1
   subst h1
   rw[hz]
   unfold mustN
   omega
 ·rw[h.2.2,List.drop_eq_getElem_cons hk,fileL_next ht hz,List.append_assoc]
  rfl
theorem file_stop {z b:Int} {q D:List ByteArray} {k:Nat} (h:FileF z b q k D) (hk:k<q.length) (hs:blkT q[k]=none∨∃ t,blkT q[k]=some t/\¬(t.size:Int)=mustN z b k):fileL z b 0 q=D:=by
 rw[h.2.2,List.drop_eq_getElem_cons hk]
 rcases hs with h1|⟨t,h1,h2⟩
 ·rw[fileL_none h1,List.append_nil]
 ·rw[fileL_size h1 h2,List.append_nil]
theorem file_end {z b:Int} {q D:List ByteArray} {k:Nat} (h:FileF z b q k D) (hk:q.length<=k):fileL z b 0 q=D:=by
 rw[h.2.2,List.drop_eq_nil_of_le hk]
 exact List.append_nil _
theorem cat_le (m:Nat):∀ D:List ByteArray,(∀ x∈D,x.size<=m)->(cat D).length<=m*D.length
 |[],_=>by simp[cat]
 |x :: D,h=>by
  have h1:=cat_le m D fun y hy=>h y (List.mem_cons_of_mem _ hy)
  have h2:=h x List.mem_cons_self
  have e:cat (x :: D)=x.data.toList++cat D:=by simp[cat]
  rw[e,List.length_append,List.length_cons,Nat.mul_add,Array.length_toList]
  show x.size+_<=_
  omega
end Go.Proofs.YtkgjfdanjmnmbaaGreatDoor.Ls


namespace Go.Proofs.YtkgjfdanjmnmbaaGreatDoor.Up
open Pk
open Go.RowKit
open Sh (bt)
def cutR:Go.Shelf.Ren:=⟨fun|206=>91|n=>n,fun|9=>9|4=>4|3=>3|n=>n,fun|n=>n⟩
theorem cutL:Go.Proofs.Lays.n206 Tryz.prog cutR:={
 mixed:=by kernel_rfl
 f206:=Tryz.func91.trans (congrArg some (by kernel_rfl))
 t3:=Tryz.underlying3
 a3:=Tryz.isAgg3
 z3:=Tryz.sizeOf3
 v3:=Tryz.zeroValue3
 t4:=Tryz.underlying4
 a4:=Tryz.isAgg4
 z4:=Tryz.sizeOf4
 v4:=Tryz.zeroValue4
 t9:=Tryz.underlying9
 a9:=Tryz.isAgg9
 z9:=Tryz.sizeOf9
 v9:=Tryz.zeroValue9 }
theorem has_one (t:ByteArray) (k:UInt8):Lib.hasPrefix t.data.toList [k]=decide (0<t.size/\bt t 0=k.toNat):=by
 have hz:t.size=t.data.toList.length:=by rw[Array.length_toList];rfl
 have hb:bt t 0=(t.data.toList.getD 0 0).toNat:=by
  unfold Sh.bt
  simp
 rw[hz,hb]
 cases t.data.toList with
 |nil=>simp[Lib.hasPrefix]
 |cons x l =>
  have e:Lib.hasPrefix (x :: l) [k]=(k==x):=by
   show [k].isPrefixOf (x :: l)=_
   simp[List.isPrefixOf]
  rw[e]
  by_cases h:k=x
  ·subst h
   simp
  ·have h2:¬x.toNat=k.toNat:=fun q=>h (UInt8.toNat_inj.1 q).symm
   rw[beq_eq_false_iff_ne.2 h,decide_eq_false]
   exact fun q=>h2 q.2
theorem size_ext (t:ByteArray):(t.extract 1 t.size).size<=t.size:=by
 rw[ByteArray.size_extract]
 omega
theorem cutLite_any (t:ByteArray) (k:UInt8) (w:World) (ht:t.size<=1048576) :
  Calls Tryz.prog 90 #[.string t,.string ⟨#[k]⟩] w fun e w'=>((0<t.size/\bt t 0=k.toNat)/\e=.returned (.tuple #[.string (t.extract 1 t.size),.bool true])∨¬(0<t.size/\bt t 0=k.toNat)/\e=.returned (.tuple #[.string t,.bool false]))/\w'=w:=by
 have HP:=hideP (Any.stringslite_HasPrefix cutL t ⟨#[k]⟩ w)
 have HO:=hideP (has_one t k)
 by_cases h:0<t.size/\bt t 0=k.toNat
 ·rw[show (⟨#[k]⟩:ByteArray).data.toList=[k] from rfl,HO.out,decide_eq_true h]at HP
  have h1:(1:Int)<=(t.size:Int):=by omega
  go_enter Tryz.func90,Tryz.ntmps90
  go_wp2_with fail
  refine HP.out.mono ?_
  rintro e w' ⟨rfl,rfl⟩
  have hk:(⟨#[k]⟩:ByteArray).size=1:=rfl
  go_wp2_with fail
  go_ret2
  exact⟨.inl ⟨h,rfl⟩,rfl⟩
 ·rw[show (⟨#[k]⟩:ByteArray).data.toList=[k] from rfl,HO.out,decide_eq_false h]at HP
  go_enter Tryz.func90,Tryz.ntmps90
  go_wp2_with fail
  refine HP.out.mono ?_
  rintro e w' ⟨rfl,rfl⟩
  go_wp2_with fail
  go_ret2
  exact⟨.inr ⟨h,rfl⟩,rfl⟩
theorem cut_any (t:ByteArray) (k:UInt8) (w:World) (ht:t.size<=1048576) :
  Calls Tryz.prog 66 #[.string t,.string ⟨#[k]⟩] w fun e w'=>((0<t.size/\bt t 0=k.toNat)/\e=.returned (.tuple #[.string (t.extract 1 t.size),.bool true])∨¬(0<t.size/\bt t 0=k.toNat)/\e=.returned (.tuple #[.string t,.bool false]))/\w'=w:=by
 go_enter Tryz.func66,Tryz.ntmps66
 go_wp2_with fail
 refine(cutLite_any t k w ht).mono ?_
 rintro e w' ⟨⟨h,rfl⟩|⟨h,rfl⟩,rfl⟩
 ·go_wp2_with fail
  go_ret2
  exact⟨.inl ⟨h,rfl⟩,rfl⟩
 ·go_wp2_with fail
  go_ret2
  exact⟨.inr ⟨h,rfl⟩,rfl⟩
theorem has_any (t:ByteArray) (k:UInt8) (w:World) :
  Calls Tryz.prog 67 #[.string t,.string ⟨#[k]⟩] w fun e w'=>e=.returned (.bool (decide (0<t.size/\bt t 0=k.toNat)))/\w'=w:=by
 have:=Bi.prefix_any t ⟨#[k]⟩ w
 rw[show (⟨#[k]⟩:ByteArray).data.toList=[k] from rfl,has_one t k]at this
 exact this
theorem read_block (ev:Value) (HS:Hid (∀ (s:ByteArray) (w:World),Glob w ev->1<=s.size->s.size<=8000->Calls Tryz.prog 68 #[.string s] w fun e w'=>(∃ r v,e=.returned (.tuple #[.string r,v])/\(v=.nilIface∨v=ev)/\r.size<=8000/\∀ b,Good s b->r=b/\v=.nilIface)/\Below w.heap.size w w'))
  (t:ByteArray) (w:World) (ht:t.size<=8000) (hg:Glob w ev) :
  Calls Tryz.prog 46 #[.string t] w fun e w'=>(∃ r v,e=.returned (.tuple #[.string r,v])/\(v=.nilIface∨v=ev)/\r.size<=8000/\∀ b:ByteArray,b.size<=48->innerV b=t->r=b/\v=.nilIface)/\Below w.heap.size w w':=by
 have HG:=hideP hg
 have g0:w.cell? ⟨0,0,none⟩=some ev:=hg.2
 clear hg
 go_enter Tryz.func46,Tryz.ntmps46
 go_wp2_with fail
 refine(cut_any t 0 w (by omega)).mono ?_
 rintro e w' ⟨⟨h,rfl⟩|⟨h,rfl⟩,rfl⟩
 ·go_wp2_with fail
  go_ret2
  refine⟨⟨_,_,rfl,.inl rfl,by have:=size_ext t;omega,fun b h1 h2=>?_⟩,Below.refl _ _⟩
  rcases inner_case h1 h2 with k|k
  ·have q1:=k.2.2
   have q2:bt t 0=0:=h.2
   omega
  ·exact⟨k.2.2.2,rfl⟩
 ·have H0:=hideP h
  clear h
  go_wp2_with fail
  refine(has_any t 1 _).mono ?_
  rintro e w2 ⟨rfl,rfl⟩
  by_cases h1:0<t.size/\bt t 0=(1:UInt8).toNat
  ·rw[decide_eq_true h1]
   have H1:=hideP h1
   clear h1
   go_wp2_with fail
   refine(HS.out t _ HG.out (by have:=H1.out.1;omega) ht).mono ?_
   rintro e w3 ⟨⟨r,v,rfl,hv,hrz,hr⟩,hb⟩
   have HV:=hideP hv
   have HR:=hideP hr
   have HB:=hideP hb
   clear hv hr hb
   go_wp2_with fail
   go_ret2
   refine⟨⟨_,_,rfl,HV.out,hrz,fun b h1 h2=>?_⟩,HB.out⟩
   rcases inner_case h1 h2 with k|k
   ·exact HR.out b k.1
   ·exact absurd ⟨k.2.1,k.2.2.1⟩ H0.out
  ·rw[decide_eq_false h1]
   have H1:=hideP h1
   clear h1
   go_wp2_with fail
   go_quiet (fail)
   go_wp2_with fail
   go_ret2
   refine⟨⟨_,_,rfl,.inr rfl,by decide,fun b h1 h2=>?_⟩,below_drewN (Below.refl _ _) _⟩
   rcases inner_case h1 h2 with k|k
   ·exact absurd ⟨k.2.1,k.2.2⟩ H1.out
   ·exact absurd ⟨k.2.1,k.2.2.1⟩ H0.out
end Go.Proofs.YtkgjfdanjmnmbaaGreatDoor.Up


namespace Go.Proofs.YtkgjfdanjmnmbaaGreatDoor.Up
open Pk
open Go.RowKit
theorem eq_nil (tid:TypeId) (pv:Value) (u:World):Sem.run Tryz.prog (binOp BinOp.eql 82 .nilIface (.iface tid pv)) u=.ok (.bool false) u:=by kernel_rfl
theorem is_nil (tid:TypeId) (pv:Value) (w:World) :
  Calls Tryz.prog 47 #[.nilIface,.iface tid pv] w fun e w'=>e=.returned (.bool false)/\w'=w:=by
 have heq:=eq_nil tid pv
 go_enter Tryz.func47,Tryz.ntmps47
 go_wp2
 go_ret
 exact⟨rfl,rfl⟩
end Go.Proofs.YtkgjfdanjmnmbaaGreatDoor.Up


namespace Go.Proofs.YtkgjfdanjmnmbaaGreatDoor.Up
open Go.RowKit Go.Extern.Stop Go.Stop Go.Extern
theorem typeOfE (v:Value) (w:World):(ReflectliteType.typeOf #[.iface 265 v]).run Tryz.prog w=.ok (.iface 141 (.agg #[.pointer (some ⟨4,265,none⟩)])) w:=by kernel_rfl
theorem methodCmp (h:Value) (w:World):(Go.method 396 141 (.agg #[h]) "Comparable").run Tryz.prog w=.ok (241,.agg #[h]) w:=by kernel_rfl
def cmpF:Array Value->Sem Value:=ReflectliteType.method fun t=>do Rtype.noPackHeld "Comparable" t;pure (.bool (<-typeInfo t).comparable)
theorem cmpE (w:World):(cmpF #[.agg #[.pointer (some ⟨4,265,none⟩)]]).run Tryz.prog w=.ok (.bool true) w:=by kernel_rfl
theorem infoE:(Tryz.prog.info? 265).map (·.comparable)=some true:=by kernel_rfl
theorem infoS:(Tryz.prog.info? 284).isSome=true:=by kernel_rfl
theorem eqE (a:Addr) (u:World):Sem.run Tryz.prog (binOp BinOp.eql 82 (.iface 265 (.pointer (some a))) (.iface 265 (.pointer (some a)))) u=.ok (.bool true) u:=by
 cases h1:Tryz.prog.info? 265 with
 |none=>have:=infoE;rw[h1]at this;cases this
 |some i =>
  cases h2:Tryz.prog.info? 284 with
  |none=>have:=infoS;rw[h2]at this;cases this
  |some j =>
   have hc:i.comparable=true:=by have:=infoE;rw[h1]at this;simpa using this
   exact run_eql_iface_ptr_same u a Tryz.underlying82 Tryz.underlying265 h1 hc h2
theorem is_same (a:Addr) (w:World) :
  Calls Tryz.prog 70 #[.iface 265 (.pointer (some a)),.iface 265 (.pointer (some a)),.bool true] w fun e w'=>e=.returned (.bool true)/\w'=w:=by
 have heq:=eqE a
 go_enter Tryz.func70,Tryz.ntmps70
 go_wp2
 refine wp_loop_rounds 1 ?_
 rw[rounds_succ]
 go_wp2
 go_ret
 exact⟨rfl,rfl⟩
theorem is_self (a:Addr) (w:World) :
  Calls Tryz.prog 47 #[.iface 265 (.pointer (some a)),.iface 265 (.pointer (some a))] w fun e w'=>e=.returned (.bool true)/\Below w.heap.size w w':=by
 have hG:=@run_callFunc_extern Tryz.prog 69 _ ReflectliteType.typeOf Tryz.func69 (by kernel_rfl) (by kernel_rfl) (by kernel_rfl) (by kernel_rfl)
 have hX:=@run_callFunc_extern Tryz.prog 241 _ cmpF Tryz.func241 (by kernel_rfl) (by kernel_rfl) (by kernel_rfl) (by kernel_rfl)
 have f1:=typeOfE
 have f2:=methodCmp
 have f3:=cmpE
 go_enter Tryz.func47,Tryz.ntmps47
 go_wp2_with fail
 refine(is_same a _).mono ?_
 rintro e w1 ⟨rfl,hw⟩
 subst w1
 go_wp2_with fail
 go_ret
 exact⟨rfl,Below.refl _ _⟩
end Go.Proofs.YtkgjfdanjmnmbaaGreatDoor.Up

