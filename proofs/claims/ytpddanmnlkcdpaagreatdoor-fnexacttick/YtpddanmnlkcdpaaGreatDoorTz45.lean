/- Texts put together: ShaLaid, KpLaid, PeEq, Climb, InclWalks, InclSpec, LsFits, PeIn. -/
import Derived.Test.YtpddanmnlkcdpaaGreatDoorRows
import Derived.Test.YtpddanmnlkcdpaaGreatDoorTz39
import Derived.OpenShut
import Derived.MakeChecks
import Derived.LaidLaws
import Derived.LaidHandle
import Derived.Test.YtpddanmnlkcdpaaGreatDoorTz47
import Derived.Test.YtpddanmnlkcdpaaGreatDoorTz29
import Derived.ChangeSame
import Derived.OpenVars
import Derived.LaidMore
import Derived.Lib.SmallJoins
import Derived.Test.YtpddanmnlkcdpaaGreatDoorTz40
import Derived.Deep.RegionWith
import Derived.BigRegion
import Derived.Test.YtpddanmnlkcdpaaGreatDoorTz18
import Derived.Lib.QuietBelow
import Derived.Test.YtpddanmnlkcdpaaGreatDoorTz32
import Derived.Deep.Slices
import Derived.ChangeSlices
set_option maxRecDepth 100000
set_option maxHeartbeats 8000000
/- What a row's list of the two variables gives a walk: their blocks' numbers. -/
namespace Go.Proofs.YtpddanmnlkcdpaaGreatDoor.Sh
open Go.RowKit
theorem arr_cells {H:Type} {enc:TypeId × Value->H} {P:Program} {w:World} {base:Nat} {sp:Nat->Bool} {held:Bool} {fuel:Nat} {t e:TypeId} {n:Nat} {k:IntKind} {cs:Array Value} {zs:List Int} {p:List MemPlace}
  (ht:P.underlying t=some (.array n e)) (he:P.underlying e=some (.int k)) (hc:P.cellsOf e=1) (hct:P.cellsOf t=n) (hz:zs.length=n)
  (h:DataW.trod enc P w base sp held fuel t cs.toList=some (.agg (zs.map fun z=>.lit (.int k z)),p)):cs=rowF k n (fun j=>zs.getD j 0):=by
 obtain⟨xs,m,rfl,hx,hl,hxl,hall⟩:=DataW.trod_array ht h
 have hxs:xs.map (·.1)=zs.map fun z=>(DataW.lit (.int k z):DataW H):=by
  have:=congrArg Prod.fst hx
  simpa using this.symm
 apply Array.ext_getElem?
 intro i
 by_cases hi:i<n
 ·rw[rowF_get k n _ i hi]
  have h1:=hall i hi
  obtain⟨b,hb⟩:∃ b,xs[i]? = some b:=⟨xs[i]'(by omega),List.getElem?_eq_getElem (by omega)⟩
  rw[hb,hc]at h1
  obtain⟨z,hcz,rfl,_⟩:=DataW.trod_int he h1
  have h2:cs.toList[i]? = some (.int k z):=by
   have:=congrArg (·[0]?) hcz
   simpa [List.getElem?_take,List.getElem?_drop] using this
  have h3:(xs.map (·.1))[i]? = some (DataW.lit (.int k z):DataW H):=by simp[hb]
  rw[hxs]at h3
  simp only[List.getElem?_map,Option.map_eq_some_iff,DataW.lit.injEq,Lit.int.injEq,true_and]at h3
  obtain⟨z',hz',rfl⟩:=h3
  rw[<-Array.getElem?_toList,h2]
  simp[List.getD,hz']
 ·have h1:(rowF k n (fun j=>zs.getD j 0))[i]? = none:=by simp[rowF,hi]
  rw[h1,<-Array.getElem?_toList]
  exact List.getElem?_eq_none (by omega)
theorem var_block {P:Program} {w:World} {n:String} {g:Nat} {cs:Array Value} (hg:P.globalNamed n=some g) (h:w.var? P n=some cs):∃ t fr,w.heap[g]? = some (.cells cs t fr):=by
 unfold World.var? at h
 rw[hg]at h
 simp only[Option.bind_some]at h
 split at h
 ·rename_i c t fr hh
  obtain rfl:=Option.some.inj h
  exact⟨t,fr,hh⟩
 ·cases h
theorem gFirst:Tryz.prog.globalNamed "loop.example/g00550/impl.firstState"=some 2:=by kernel_rfl
theorem gRound:Tryz.prog.globalNamed "loop.example/g00550/impl.roundNumbers"=some 3:=by kernel_rfl
theorem tFirst:(Tryz.prog.globals[2]?).map (·.type)=some 293:=by kernel_rfl
theorem tRound:(Tryz.prog.globals[3]?).map (·.type)=some 300:=by kernel_rfl
theorem vars_of_laid {W:World} (h:laidMetH Tryz.prog [("loop.example/g00550/impl.firstState",Rows.laid_loop_example_g00550_impl_firstState),("loop.example/g00550/impl.roundNumbers",Rows.laid_loop_example_g00550_impl_roundNumbers)] W):Vars W:=by
 rw[MakeChecks.laidMetH_plain _ _ _ (by kernel_rfl)]at h
 obtain⟨ps,⟨g0,t0,cs0,f0,p0,q0,hg0,ht0,hv0,hd0,⟨g1,t1,cs1,f1,p1,q1,hg1,ht1,hv1,hd1,_,_⟩,_⟩,_,_⟩:=h
 obtain rfl:=Option.some.inj (gFirst.symm.trans hg0)
 obtain rfl:=Option.some.inj (gRound.symm.trans hg1)
 obtain rfl:=Option.some.inj (tFirst.symm.trans ht0)
 obtain rfl:=Option.some.inj (tRound.symm.trans ht1)
 have e0:=arr_cells (zs:=firstL) Tryz.underlying293 Tryz.underlying199 (by kernel_rfl) (by kernel_rfl) rfl hd0
 have e1:=arr_cells (zs:=keyL) Tryz.underlying300 Tryz.underlying199 (by kernel_rfl) (by kernel_rfl) rfl hd1
 subst e0
 subst e1
 exact⟨var_block hg0 hv0,var_block hg1 hv1⟩
end Go.Proofs.YtpddanmnlkcdpaaGreatDoor.Sh


/- What a row's list of three variables gives a walk. -/
namespace Go.Proofs.YtpddanmnlkcdpaaGreatDoor.Kp
open Go.RowKit Go.ChangeShapes Go.WideShapes Go.ChangeAt Go.Deep
open Ls (HH)
open Sh (Vars)
theorem etK:Tryz.prog.globalNamed "errors.errorType"=some 1:=by kernel_rfl
theorem rtK:(Tryz.prog.cutTypes.find? (·.1 == "internal/reflectlite.rtype")).map (·.2)=some 280:=by kernel_rfl
theorem oneRowK:((List.range 331).filter fun t=>Tryz.prog.rowNamed t [101,114,114,111,114])=[213]:=by kernel_rfl
theorem typesSizeK:Tryz.prog.types.size=331:=by kernel_rfl
theorem both_of_laid {W:World} (h:laidMetH Tryz.prog [("errors.errorType",Rows.laid_errors_errorType),("loop.example/g00550/impl.firstState",Rows.laid_loop_example_g00550_impl_firstState),("loop.example/g00550/impl.roundNumbers",Rows.laid_loop_example_g00550_impl_roundNumbers)] W):HH W/\Vars W:=by
 have h':laidMet Tryz.prog [("loop.example/g00550/impl.firstState",Rows.laid_loop_example_g00550_impl_firstState),("loop.example/g00550/impl.roundNumbers",Rows.laid_loop_example_g00550_impl_roundNumbers)] W/\handlesMet Tryz.prog [("errors.errorType",Rows.laid_errors_errorType)] W:=h
 refine⟨?_,Sh.vars_of_laid (by rw[MakeChecks.laidMetH_plain _ _ _ (by kernel_rfl)];exact h'.1)⟩
 obtain⟨name,u,ty,e1,e2,e3,e4,e5⟩:=h'.2 _ (List.mem_singleton.2 rfl)
 have en:name=[101,114,114,111,114]:=(Option.some.inj e1).symm
 subst en
 obtain rfl:=Option.some.inj (rtK.symm.trans e2)
 have hm:ty∈(List.range 331).filter fun t=>Tryz.prog.rowNamed t [101,114,114,111,114]:=List.mem_filter.2 ⟨List.mem_range.2 (by rw[<-typesSizeK];exact e3),e4⟩
 rw[oneRowK]at hm
 obtain rfl:=List.mem_singleton.1 hm
 have hh:typeHandle Tryz.prog 213=.pointer (some ⟨4,213,none⟩):=by kernel_rfl
 rw[hh]at e5
 show W.cell? ⟨1,0,none⟩=some Gn.handle
 unfold Gn.handle
 simpa using World.var?_cell etK e5 0
end Go.Proofs.YtpddanmnlkcdpaaGreatDoor.Kp


namespace Go.Proofs.YtpddanmnlkcdpaaGreatDoor.Pe
open Go.RowKit
open Kp
open In (Ints OwnI)
open Ls (lowL)
theorem eqO_any (nm:ByteArray) (a a':Option Addr) (n cap cap':Nat) (l:List Int) (q g t:Int) (w:World) (h:Ints w w.heap.size a l) (h':Ints w w.heap.size a' l) (hln:l.length=n) (hn:n<=1048576) :
  Calls Tryz.prog 80 #[.agg #[.string nm,.slice a n cap,.int .i64 q,.int .i64 g,.int .i64 t],.agg #[.string nm,.slice a' n cap',.int .i64 q,.int .i64 g,.int .i64 t]] w fun e w'=>e=.returned (.bool true)/\Below w.heap.size w w':=by
 have C0:=hideK (((Cx.nil w).new (.cells #[.string nm,.slice a n cap,.int .i64 q,.int .i64 g,.int .i64 t] 86)).new (.cells #[.string nm,.slice a' n cap',.int .i64 q,.int .i64 g,.int .i64 t] 86))
 simp only[World.size_alloc]at C0
 have HE:=hideK (fun W (hW:Below w.heap.size w W)=>In.eq_any a a' cap cap' l W W.heap.size ((h.below hW).mono hW.size) ((h'.below hW).mono hW.size) (by rw[hln];exact hn))
 rw[hln]at HE
 clear h h' hln
 have h1:(nm.toList==nm.toList)=true:=by simp
 have h2:(q != q)=false:=by simp
 have h3:(g != g)=false:=by simp
 have h4:(t != t)=false:=by simp
 go_enter Tryz.func80,Tryz.ntmps80
 go_upto_region 1 with fail
 generalize (w.alloc _).alloc _=W0 at C0 ⊢
 obtain⟨p0,p1,p2,p3,p4⟩:=cells5 (C0.out.get 0 rfl)
 obtain⟨q0,q1,q2,q3,q4⟩:=cells5 (C0.out.get 1 rfl)
 go_wp2_with fail
 refine(HE.out _ C0.out.low).mono ?_
 rintro e w1 ⟨rfl,hb⟩
 have C1:=hideK (C0.out.call hb)
 clear hb C0 p0 p1 p2 p3 p4 q0 q1 q2 q3 q4
 obtain⟨p0,p1,p2,p3,p4⟩:=cells5 (C1.out.get 0 rfl)
 obtain⟨q0,q1,q2,q3,q4⟩:=cells5 (C1.out.get 1 rfl)
 go_wp2_with fail
 go_ret
 exact⟨rfl,C1.out.low⟩
theorem eqOs_any (a a':Option Addr) (n cap cap':Nat) (m m':List MO) (w:World) (h:Oths w w.heap.size a m) (h':Oths w w.heap.size a' m') (he:oths m=oths m') (hm:m.length=n) (hn:n<=1048576) (hsm:Small m) :
  Calls Tryz.prog 42 #[.slice a n cap,.slice a' n cap'] w fun e w'=>e=.returned (.bool true)/\Below w.heap.size w w':=by
 have hm':m'.length=n:=by rw[<-hm,<-oths_length m,<-oths_length m',he]
 have HS:=hideK h
 have HS':=hideK h'
 have HM:=hideK hm
 have HM':=hideK hm'
 have HSM:=hideK hsm
 have HEQ:Hid (∀ j (h1:j<m.length) (h2:j<m'.length),m'[j].1=m[j].1):=fun j h1 h2=>by rw[<-oths_get m' j h2,<-oths_get m j h1];simp only[he]
 have hmx:=mixedK
 have hnn:((n:Int) != (n:Int))=false:=by simp
 clear h h' he hm hm' hsm
 go_enter Tryz.func42,Tryz.ntmps42
 go_wp2_with fail
 go_loopw [5] (fun jv wr=>∃ j:Nat,jv=.int .i64 j/\j<=n/\Below w.heap.size w wr) (fun jv _=>n-(intOf jv).toNat)
 case atStart=>exact⟨0,rfl,Nat.zero_le _,Below.refl _ _⟩
 case round =>
  obtain⟨j,rfl,hj,hbel⟩:=hrel
  have GB:=hideK hbel
  clear hbel
  by_cases hlt:j<n
  ·have hlt':(j:Int)<(n:Int):=by omega
   have hjl:j<m.length:=by rw[HM.out];exact hlt
   have hjl':j<m'.length:=by rw[HM'.out];exact hlt
   obtain⟨b,off,rfl,hb,hc⟩:=HS.out.some (by omega)
   obtain⟨b',off',rfl,hb',hc'⟩:=HS'.out.some (by omega)
   obtain⟨d0,d1,d2,d3,d4⟩:=(hc j hjl).below GB.out hb
   obtain⟨e0,e1,e2,e3,e4⟩:=(hc' j hjl').below GB.out hb'
   obtain⟨ax,cx,hxv,_,_,hix⟩:=HS.out.2 m[j] (List.getElem_mem hjl)
   obtain⟨ax',cx',hxv',_,_,hix'⟩:=HS'.out.2 m'[j] (List.getElem_mem hjl')
   have hkx:=(HSM.out m[j] (List.getElem_mem hjl)).1
   rw[HEQ.out j hjl hjl']at e0 e2 e3 e4 hxv' hix'
   rw[hxv]at d1
   rw[hxv']at e1
   have HEO:=hideK (fun W (hW:Below w.heap.size w W)=>eqO_any m[j].1.name ax ax' _ cx cx' m[j].1.has m[j].1.asked m[j].1.age m[j].1.strikes W ((hix.below hW).mono hW.size) ((hix'.below hW).mono hW.size) rfl hkx)
   clear hix hix' hxv hxv' hc hc' hkx
   generalize m[j].1.name=nm at d0 e0 HEO
   generalize m[j].1.has.length=k at d1 e1 HEO
   generalize m[j].1.asked=q at d2 e2 HEO
   generalize m[j].1.age=g at d3 e3 HEO
   generalize m[j].1.strikes=t at d4 e4 HEO
   have r0:=fun d os=>cell_regrown d0 d os
   have r1:=fun d os=>cell_regrown d1 d os
   have r2:=fun d os=>cell_regrown d2 d os
   have r3:=fun d os=>cell_regrown d3 d os
   have r4:=fun d os=>cell_regrown d4 d os
   have s0:=fun d os=>cell_regrown e0 d os
   have s1:=fun d os=>cell_regrown e1 d os
   have s2:=fun d os=>cell_regrown e2 d os
   have s3:=fun d os=>cell_regrown e3 d os
   have s4:=fun d os=>cell_regrown e4 d os
   go_wp2_with fail
   refine wp_region_quiet_below (by assumption) (by kernel_rfl) ?_
   repeat (go_big_quiet_step ((go_at_call 80;exact Calls.regrown_of (HEO.out _ (lowL GB.out (below_regrown _ _ _))))))
   refine wpQuiet_nil ?_
   intro _ hw'
   obtain⟨⟨dq,osq⟩,hw''⟩:=hw'
   subst hw''
   have K1:=hideK (lowL GB.out (below_regrown wr dq osq))
   generalize Go.Sort.grow (redrawn wr dq) osq=w8 at K1 ⊢
   clear r0 r1 r2 r3 r4 s0 s1 s2 s3 s4 d0 d1 d2 d3 d4 e0 e1 e2 e3 e4
   go_wp2_with fail
   go_roundw
   case rel=>exact⟨j+1,by go_num,by omega,K1.out⟩
   case measure=>simp[intOf];omega
  ·have hltD:decide ((j:Int)<(n:Int))=false:=by simp;omega
   have hlt2:¬((j:Int)<(n:Int)):=by omega
   go_wp2_with fail
   go_ret
   exact⟨rfl,GB.out⟩
theorem eqP_any (z b:Int) (r s:ByteArray) (y:Int) (a a':Option Addr) (n cap cap':Nat) (m m':List MO) (w:World) (h:Oths w w.heap.size a m) (h':Oths w w.heap.size a' m') (he:oths m=oths m') (hm:m.length=n) (hn:n<=1048576) (hsm:Small m) :
  Calls Tryz.prog 11 #[peerV z b r s y (.slice a n cap),peerV z b r s y (.slice a' n cap')] w fun e w'=>e=.returned (.bool true)/\Below w.heap.size w w':=by
 have HK:=hideK (fun W=>eqK_same z b r s y W)
 have HO:=hideK (fun W (hW:Below w.heap.size w W)=>eqOs_any a a' n cap cap' m m' W ((h.below hW).mono hW.size) ((h'.below hW).mono hW.size) he hm hn hsm)
 have C0:=hideK (((Cx.nil w).new (peerO z b r s y (.slice a n cap))).new (peerO z b r s y (.slice a' n cap')))
 simp only[World.size_alloc]at C0
 clear h h' hsm
 unfold peerV
 unfold kV at HK
 unfold peerO at C0
 go_enter Tryz.func11,Tryz.ntmps11
 go_wp2_with fail
 generalize (w.alloc _).alloc _=W0 at C0 ⊢
 refine(HK.out _).mono ?_
 rintro e w1 ⟨rfl,hb⟩
 have C1:=hideK (C0.out.call hb)
 clear hb C0
 obtain⟨l0,l1,l2,l3,l4,l5⟩:=cellsP6 (C1.out.get 0 rfl)
 obtain⟨k0,k1,k2,k3,k4,k5⟩:=cellsP6 (C1.out.get 1 rfl)
 go_wp2_with fail
 refine(HO.out _ C1.out.low).mono ?_
 rintro e w2 ⟨rfl,hb⟩
 have C2:=hideK (C1.out.call hb)
 clear hb C1
 go_wp2_with fail
 go_ret
 exact⟨rfl,C2.out.low⟩
end Go.Proofs.YtpddanmnlkcdpaaGreatDoor.Pe


namespace Go.Proofs.YtpddanmnlkcdpaaGreatDoor.Tr
open Go.RowKit
open St
open Sh (Vars nodeV nodeV_size nodeR nodeR_yes node_impl)
def Climbs (w0:World) (f:Value) (φ:ByteArray->ByteArray):Prop :=
 ∃ k cap,f=.func (.func k) #[] cap/\(∀ args w,(callFunc k args).run Tryz.prog w=.ok (.enter k args) w)/\∀ (node:ByteArray) (w:World),node.size=32->Below w0.heap.size w0 w->Vars w ->
  Calls Tryz.prog k (#[.string node]++cap) w fun e w'=>e=.returned (.string (φ node))/\Below w.heap.size w w'
theorem Climbs.later {w w':World} {f:Value} {φ:ByteArray->ByteArray} (h:Climbs w f φ) (b:Below w.heap.size w w'):Climbs w' f φ:=by
 obtain⟨k,cap,hf,he,hc⟩:=h
 exact⟨k,cap,hf,he,fun node W hn hW hV=>hc node W hn (below2 b hW) hV⟩
theorem stay_any (w0:World):Climbs w0 (.func (.func 217) #[] #[]) (fun x=>x):=by
 refine⟨217,#[],rfl,enters_of Tryz.func217 (by kernel_rfl) rfl,fun node w hn hb hV=>?_⟩
 show Calls Tryz.prog 217 #[.string node] w _
 clear hV hb hn
 go_enter Tryz.func217,Tryz.ntmps217
 go_wp2_with fail
 go_ret
 exact⟨rfl,Below.refl _ _⟩
theorem right_call (node side:ByteArray) (k g1 g2:Nat) (cap:Array Value) (φ:ByteArray->ByteArray) (w:World) (hn:node.size=32) (hs:side.size=32) (hV:Vars w)
  (he:∀ args w,(callFunc k args).run Tryz.prog w=.ok (.enter k args) w) (c1:w.cell? ⟨g1,0,none⟩=some (.func (.func k) #[] cap)) (c2:w.cell? ⟨g2,0,none⟩=some (.string side))
  (H:∀ (x:ByteArray) (W:World),x.size=32->Below w.heap.size w W->Vars W->Calls Tryz.prog k (#[.string x]++cap) W fun e w'=>e=.returned (.string (φ x))/\Below W.heap.size W w') :
  Calls Tryz.prog 232 #[.string node,.pointer (some ⟨g1,0,none⟩),.pointer (some ⟨g2,0,none⟩)] w fun e w'=>e=.returned (.string (φ (nodeV node side)))/\Below w.heap.size w w':=by
 have HH:=hideT H
 have HV:=hideT hV
 have hv2:=hV.two
 have HN:=hideT (nodeR_yes node side hn hs)
 have HG:=hideT (World.block_lt_of_cell? w _ c1)
 have HC1:=hideT c1
 clear H hV
 go_enter Tryz.func232,Tryz.ntmps232
 go_wp2_with fail
 go_region_with (first|(go_at_call 233;(with_reducible refine(node_impl node side _ ?_).mono ?_);(· exact HV.out);rw[HN.out];rintro e w1 ⟨rfl,hb1⟩;have HB1:=hideT (show Below w.heap.size w w1 from ⟨hb1.os,hb1.tape,hb1.output,hb1.size,hb1.block⟩);have c1b:=(HB1.out.cell (p:=⟨g1,0,none⟩) HG.out).trans HC1.out;clear hb1)|((with_reducible refine(HH.out (nodeV node side) w1 ?_ HB1.out ?_).mono ?_);(· exact nodeV_size _ _);(· exact HV.out.below HB1.out hv2);rintro e w2 ⟨rfl,hb2⟩;have HB2:=hideT (below2 HB1.out hb2);clear hb2))
 all_goals (try go_wp2_with fail)
 all_goals go_ret
 all_goals exact⟨rfl,HB2.out⟩
theorem left_call (node side:ByteArray) (k g1 g2:Nat) (cap:Array Value) (φ:ByteArray->ByteArray) (w:World) (hn:node.size=32) (hs:side.size=32) (hV:Vars w)
  (he:∀ args w,(callFunc k args).run Tryz.prog w=.ok (.enter k args) w) (c1:w.cell? ⟨g1,0,none⟩=some (.func (.func k) #[] cap)) (c2:w.cell? ⟨g2,0,none⟩=some (.string side))
  (H:∀ (x:ByteArray) (W:World),x.size=32->Below w.heap.size w W->Vars W->Calls Tryz.prog k (#[.string x]++cap) W fun e w'=>e=.returned (.string (φ x))/\Below W.heap.size W w') :
  Calls Tryz.prog 234 #[.string node,.pointer (some ⟨g1,0,none⟩),.pointer (some ⟨g2,0,none⟩)] w fun e w'=>e=.returned (.string (φ (nodeV side node)))/\Below w.heap.size w w':=by
 have HH:=hideT H
 have HV:=hideT hV
 have hv2:=hV.two
 have HN:=hideT (nodeR_yes side node hs hn)
 have HG:=hideT (World.block_lt_of_cell? w _ c1)
 have HC1:=hideT c1
 clear H hV
 go_enter Tryz.func234,Tryz.ntmps234
 go_wp2_with fail
 go_region_with (first|(go_at_call 233;(with_reducible refine(node_impl side node _ ?_).mono ?_);(· exact HV.out);rw[HN.out];rintro e w1 ⟨rfl,hb1⟩;have HB1:=hideT (show Below w.heap.size w w1 from ⟨hb1.os,hb1.tape,hb1.output,hb1.size,hb1.block⟩);have c1b:=(HB1.out.cell (p:=⟨g1,0,none⟩) HG.out).trans HC1.out;clear hb1)|((with_reducible refine(HH.out (nodeV side node) w1 ?_ HB1.out ?_).mono ?_);(· exact nodeV_size _ _);(· exact HV.out.below HB1.out hv2);rintro e w2 ⟨rfl,hb2⟩;have HB2:=hideT (below2 HB1.out hb2);clear hb2))
 all_goals (try go_wp2_with fail)
 all_goals go_ret
 all_goals exact⟨rfl,HB2.out⟩
theorem joinRight_any (side:ByteArray) (f:Value) (φ:ByteArray->ByteArray) (w:World) (hs:side.size=32) (h:Climbs w f φ) :
  Calls Tryz.prog 220 #[.string side,f] w fun e w'=>∃ g,e=.returned g/\Climbs w' g (fun x=>φ (nodeV x side))/\Below w.heap.size w w':=by
 obtain⟨k,cap,rfl,he,hc⟩:=h
 have HE:=hideT he
 have HC:=hideT hc
 clear he hc
 go_enter Tryz.func220,Tryz.ntmps220
 go_wp2_with fail
 go_ret
 refine⟨_,rfl,⟨232,_,rfl,enters_of Tryz.func232 (by kernel_rfl) rfl,fun node W hn hW hV=>?_⟩,((Below.refl _ _).alloc (Nat.le_refl _) _).alloc (by simp) _⟩
 have hsz:=hW.size
 have hb:Below w.heap.size w W:=below2 (((Below.refl _ _).alloc (Nat.le_refl _) _).alloc (by simp) _) hW
 have c1:=hW.cell (p:=⟨w.heap.size+1,0,none⟩) (by simp)
 have c2:=hW.cell (p:=⟨w.heap.size,0,none⟩) (by simp;omega)
 refine right_call node side k (w.heap.size+1) w.heap.size cap φ W hn hs hV HE.out ?_ ?_ (fun x W' hx hW' hV'=>HC.out x W' hx (below2 hb hW') hV')
 ·rw[c1]
  simp
 ·rw[c2]
  simp
theorem joinLeft_any (side:ByteArray) (f:Value) (φ:ByteArray->ByteArray) (w:World) (hs:side.size=32) (h:Climbs w f φ) :
  Calls Tryz.prog 221 #[.string side,f] w fun e w'=>∃ g,e=.returned g/\Climbs w' g (fun x=>φ (nodeV side x))/\Below w.heap.size w w':=by
 obtain⟨k,cap,rfl,he,hc⟩:=h
 have HE:=hideT he
 have HC:=hideT hc
 clear he hc
 go_enter Tryz.func221,Tryz.ntmps221
 go_wp2_with fail
 go_ret
 refine⟨_,rfl,⟨234,_,rfl,enters_of Tryz.func234 (by kernel_rfl) rfl,fun node W hn hW hV=>?_⟩,((Below.refl _ _).alloc (Nat.le_refl _) _).alloc (by simp) _⟩
 have hsz:=hW.size
 have hb:Below w.heap.size w W:=below2 (((Below.refl _ _).alloc (Nat.le_refl _) _).alloc (by simp) _) hW
 have c1:=hW.cell (p:=⟨w.heap.size+1,0,none⟩) (by simp)
 have c2:=hW.cell (p:=⟨w.heap.size,0,none⟩) (by simp;omega)
 refine left_call node side k (w.heap.size+1) w.heap.size cap φ W hn hs hV HE.out ?_ ?_ (fun x W' hx hW' hV'=>HC.out x W' hx (below2 hb hW') hV')
 ·rw[c1]
  simp
 ·rw[c2]
  simp
end Go.Proofs.YtpddanmnlkcdpaaGreatDoor.Tr


namespace Go.Proofs.YtpddanmnlkcdpaaGreatDoor.Tr
open Go.RowKit
open St
open Sh (Vars nodeV)
theorem take_last (p:List ByteArray) (m:Nat) (h:1<=m) (hm:m<=p.length):p.take m=p.take (m-1)++[p[m-1]]:=by
 have:=List.take_append_getElem (l:=p) (i:=m-1) (by omega)
 rw[this,show m-1+1=m by omega]
theorem climbFrom_any (n0 i0:Nat) (p:List ByteArray) (a:Option Addr) (cap B:Nat) (w:World) (hin:i0<n0) (hn:n0<9223372036854775808) (hp:p.length<=1048576) (hcap:p.length<=cap) (hw:∀ j (h:j<p.length),p[j].size=32) (hs:Strs w B a p) (hB:B<=w.heap.size) :
  Calls Tryz.prog 199 #[.int .i64 i0,.int .i64 n0,.slice a p.length cap] w fun e w'=>Below w.heap.size w w'/\((∃ f φ,e=.returned (.tuple #[f,.bool true])/\Climbs w' f φ/\∀ h,incl n0 i0 p h=some (φ h))∨(∃ f,e=.returned (.tuple #[f,.bool false])/\∀ h,incl n0 i0 p h=none)):=by
 have HS:=hideT hs
 have HW:=hideT hw
 clear hs hw
 obtain⟨m0,hm0⟩:∃ m0,m0=p.length:=⟨_,rfl⟩
 have HM:=hideT hm0
 rw[<-hm0]at hp hcap ⊢
 clear hm0
 go_enter Tryz.func199,Tryz.ntmps199
 go_wp2_with fail
 go_loopw [0,1,2,8] (fun iv nv pv uv wr=>∃ (i n m c:Nat) (φ:ByteArray->ByteArray),iv=.int .i64 i/\nv=.int .i64 n/\pv=.slice a m c/\i<n/\n<=n0/\m<=m0/\m<=c/\Climbs wr uv φ/\(∀ h,incl n0 i0 p h=(incl n i (p.take m) h).map φ)/\Below w.heap.size w wr) (fun _ nv _ _ _=>(intOf nv).toNat)
 case atStart =>
  refine⟨i0,n0,m0,cap,fun x=>x,rfl,rfl,rfl,hin,Nat.le_refl _,Nat.le_refl _,hcap,stay_any w,fun h=>?_,Below.refl _ _⟩
  rw[HM.out,List.take_length,Option.map_id']
 case round =>
  obtain⟨i,n,m,c,φ,rfl,rfl,rfl,hi,hn0,hm,hmc,hcl,hinc,hbel⟩:=hrel
  have HB:=hideT hbel
  have HCL:=hideT hcl
  have HI:=hideT hinc
  clear hbel hcl hinc
  by_cases h1:n<=1
  ·obtain rfl:n=1:=by omega
   obtain rfl:i=0:=by omega
   by_cases hm0:m=0
   ·subst hm0
    have HE:Hid (∀ h,incl n0 i0 p h=some (φ h)):=fun h=>by
     rw[HI.out h,incl_one]
     rfl
    go_wp2_with fail
    go_ret2
    exact⟨HB.out,.inl ⟨_,φ,rfl,HCL.out,HE.out⟩⟩
   ·have HE:Hid (∀ h,incl n0 i0 p h=none):=fun h=>by
     rw[HI.out h,incl_one,if_neg (by
      intro he
      have h2:=congrArg List.length he
      rw[List.length_take,List.length_nil]at h2
      have h3:=HM.out
      omega)]
     rfl
    have g0:((m:Int)==0)=false:=by simp;omega
    go_wp2_with fail
    go_ret2
    exact⟨HB.out,.inr ⟨_,rfl,HE.out⟩⟩
  ·have g1:1<(n:Int):=by omega
   by_cases hm0:m=0
   ·subst hm0
    have HE:Hid (∀ h,incl n0 i0 p h=none):=fun h=>by
     rw[HI.out h,List.take_zero,incl_none n i h (by omega)]
     rfl
    go_wp2_with fail
    go_ret2
    exact⟨HB.out,.inr ⟨_,rfl,HE.out⟩⟩
   ·have g0:¬(m:Int)=0:=by omega
    have hml:m-1<p.length:=by have:=HM.out;omega
    obtain⟨b,off,rfl,hb,hc⟩:=(HS.out.after HB.out hB).some (by omega)
    have ci:=hc (m-1) hml
    have HSZ:=hideT (HW.out (m-1) hml)
    have HTL:=hideT (take_last p m (by omega) (by have:=HM.out;omega))
    have HIL:=hideT (fun (s h:ByteArray) (hik:i<half n)=>incl_left n i (p.take (m-1)) s h (by omega) hik)
    have HIR:=hideT (fun (s h:ByteArray) (hik:¬i<half n)=>incl_right n i (p.take (m-1)) s h (by omega) hik hi)
    obtain⟨s,hse⟩:∃ s,s=p[m-1]:=⟨_,rfl⟩
    rw[<-hse]at ci HSZ HTL
    clear hc hse
    have hp2:=half_pos n
    have hl2:=half_lt n (by omega)
    go_wp2_with fail
    refine(cutLast_any b off m c s wr (by omega) (by omega) hmc ci).mono ?_
    rintro e w1 ⟨rfl,hb1⟩
    have HB1:=hideT (HB.out.trans (hb1.mono HB.out.size))
    have HCL1:=hideT (HCL.out.later hb1)
    clear hb1 ci
    go_wp2_with fail
    refine(half_impl n w1 (by omega) (by omega)).mono ?_
    rintro e w2 ⟨rfl,hw2⟩
    subst w2
    obtain⟨k,hk⟩:∃ k,k=half n:=⟨_,rfl⟩
    rw[<-hk]at hp2 hl2 HIL HIR ⊢
    clear hk
    by_cases hik:i<k
    ·go_wp2_with fail
     refine(joinRight_any s _ φ w1 HSZ.out HCL1.out).mono ?_
     rintro e w3 ⟨g,rfl,hg3,hb3⟩
     have HB3:=hideT (HB1.out.trans (hb3.mono HB1.out.size))
     have HG:=hideT hg3
     clear hb3 hg3
     go_wp2_with fail
     go_roundw
     case rel =>
      refine⟨i,k,m-1,m-1,_,rfl,rfl,rfl,hik,by omega,by omega,Nat.le_refl _,HG.out,fun h=>?_,HB3.out⟩
      rw[HI.out h,HTL.out,HIL.out s h hik,Option.map_map]
      rfl
     case measure=>simp[intOf];omega
    ·go_wp2_with fail
     refine(joinLeft_any s _ φ w1 HSZ.out HCL1.out).mono ?_
     rintro e w3 ⟨g,rfl,hg3,hb3⟩
     have HB3:=hideT (HB1.out.trans (hb3.mono HB1.out.size))
     have HG:=hideT hg3
     clear hb3 hg3
     go_wp2_with fail
     go_roundw
     case rel =>
      refine⟨i-k,n-k,m-1,m-1,_,by go_num,by go_num,rfl,by omega,by omega,by omega,Nat.le_refl _,HG.out,fun h=>?_,HB3.out⟩
      rw[HI.out h,HTL.out,HIR.out s h hik,Option.map_map]
      rfl
     case measure=>simp[intOf];omega
theorem str_eq (a b:ByteArray):(a.toList==b.toList)=decide (a=b):=by
 rw[ByteArray.toList_eq,ByteArray.toList_eq]
 by_cases h:a=b
 ·subst h
  simp
 ·rw[decide_eq_false h]
  have:¬a.data.toList=b.data.toList:=fun e=>h (by
   cases a
   cases b
   simp at e
   rw[e])
  simpa using this
def inclB (leaf:ByteArray) (i n:Int) (p:List ByteArray) (root:ByteArray):Bool :=
 decide (leaf.size=32) && decide (root.size=32) && (decide (p.length<=63) && wide p) && decide (0<=i) && decide (i<n) && decide (incl n.toNat i.toNat p leaf=some root)
theorem inclB_leaf (leaf:ByteArray) (i n:Int) (p:List ByteArray) (root:ByteArray) (h:¬leaf.size=32):inclB leaf i n p root=false:=by simp[inclB,h]
theorem inclB_root (leaf:ByteArray) (i n:Int) (p:List ByteArray) (root:ByteArray) (h:¬root.size=32):inclB leaf i n p root=false:=by simp[inclB,h]
theorem inclB_path (leaf:ByteArray) (i n:Int) (p:List ByteArray) (root:ByteArray) (h:(decide (p.length<=63) && wide p)=false):inclB leaf i n p root=false:=by simp only[inclB,h];simp
theorem inclB_low (leaf:ByteArray) (i n:Int) (p:List ByteArray) (root:ByteArray) (h:i<0):inclB leaf i n p root=false:=by simp[inclB,show ¬0<=i by omega]
theorem inclB_high (leaf:ByteArray) (i n:Int) (p:List ByteArray) (root:ByteArray) (h:¬i<n):inclB leaf i n p root=false:=by simp[inclB,h]
theorem inclB_in (leaf:ByteArray) (i n:Nat) (p:List ByteArray) (root:ByteArray) (h1:leaf.size=32) (h2:root.size=32) (h3:(decide (p.length<=63) && wide p)=true) (h:i<n):inclB leaf i n p root=decide (incl n i p leaf=some root):=by
 simp only[inclB,h1,h2,h3]
 simp[h]
theorem incl_impl (leaf root:ByteArray) (i n:Int) (p:List ByteArray) (a:Option Addr) (cap B:Nat) (w:World) (hn:n<9223372036854775808) (hp:p.length<=1048576) (hcap:p.length<=cap) (hs:Strs w B a p) (hB:B<=w.heap.size) (hV:Vars w) :
  Calls Tryz.prog 174 #[.string leaf,.int .i64 i,.int .i64 n,.slice a p.length cap,.string root] w fun e w'=>e=.returned (.bool (inclB leaf i n p root))/\Below w.heap.size w w':=by
 have HD:=hideT (digs_impl a cap p 63 w B hs hp)
 have HCF:=hideT (fun (n' i':Nat) h1 h2 h3=>climbFrom_any n' i' p a cap B w h1 h2 hp hcap h3 hs hB)
 have HV:=hideT hV
 have hv2:=hV.two
 have HPath:=hideT (inclB_path leaf i n p root)
 have HIn:=hideT (inclB_in leaf)
 have HWide:=hideT ((wide_yes p).1)
 clear hs hV
 by_cases h1:leaf.size=32
 ·by_cases h2:root.size=32
  ·cases h3:(decide (p.length<=63) && wide p) with
   |false =>
    have HF:=hideT (HPath.out h3)
    rw[h3]at HD
    clear h3
    clear HCF
    generalize p.length=m at hp hcap HD ⊢
    go_enter Tryz.func174,Tryz.ntmps174
    go_wp2_with fail
    refine HD.out.mono ?_
    rintro e w1 ⟨rfl,hw⟩
    subst w1
    go_wp2_with fail
    go_ret
    exact⟨ret_bool HF.out.symm,Below.refl _ _⟩
   |true =>
    have HT:=hideT h3
    have HW2:Hid (wide p=true):=by
     unfold Hid
     rw[Bool.and_eq_true]at h3
     exact h3.2
    rw[h3]at HD
    clear h3
    by_cases hi0:i<0
    ·have HF:=hideT (inclB_low leaf i n p root hi0)
     clear HCF
     generalize p.length=m at hp hcap HD ⊢
     go_enter Tryz.func174,Tryz.ntmps174
     go_wp2_with fail
     refine HD.out.mono ?_
     rintro e w1 ⟨rfl,hw⟩
     subst w1
     go_wp2_with fail
     go_ret
     exact⟨ret_bool HF.out.symm,Below.refl _ _⟩
    ·by_cases hin:i<n
     ·obtain⟨i',rfl⟩:∃ k:Nat,i=k:=⟨i.toNat,by omega⟩
      obtain⟨n',rfl⟩:∃ k:Nat,n=k:=⟨n.toNat,by omega⟩
      have HF:=hideT (HIn.out i' n' p root h1 h2 HT.out (by omega))
      have HC:=hideT (HCF.out n' i' (by omega) (by omega) (HWide.out HW2.out))
      generalize p.length=m at hp hcap HD HC ⊢
      have g1:¬(n':Int)<=i':=by omega
      clear HCF hi0 hin hn
      go_enter Tryz.func174,Tryz.ntmps174
      go_wp2_with fail
      refine HD.out.mono ?_
      rintro e w1 ⟨rfl,hw⟩
      subst w1
      go_wp2_with fail
      refine HC.out.mono ?_
      rintro e w2 ⟨hb2,⟨f,φ,rfl,hcl,hall⟩|⟨f,rfl,hnone⟩⟩
      ·obtain⟨k,caps,rfl,he,hcall⟩:=hcl
       have HB2:=hideT hb2
       have HE:=hideT (hall leaf)
       have HCall:=hideT (hcall leaf w2 h1 (Below.refl _ _) (HV.out.below hb2 hv2))
       clear hcall hall hb2
       go_wp2_with fail
       refine HCall.out.mono ?_
       rintro e w3 ⟨rfl,hb3⟩
       have HB3:=hideT (below2 HB2.out hb3)
       clear hb3
       have HQ:Hid (inclB leaf i' n' p root=decide (φ leaf=root)):=by
        unfold Hid
        rw[HF.out,HE.out]
        simp
       go_wp2_with fail
       go_ret
       exact⟨ret_bool (by rw[HQ.out];exact str_eq _ _),HB3.out⟩
      ·have HQ:Hid (inclB leaf i' n' p root=false):=by
        unfold Hid
        rw[HF.out,hnone leaf]
        simp
       clear hnone
       go_wp2_with fail
       go_ret
       exact⟨ret_bool HQ.out.symm,hb2⟩
     ·have HF:=hideT (inclB_high leaf i n p root hin)
      have hin':n<=i:=by omega
      clear HCF
      generalize p.length=m at hp hcap HD ⊢
      go_enter Tryz.func174,Tryz.ntmps174
      go_wp2_with fail
      refine HD.out.mono ?_
      rintro e w1 ⟨rfl,hw⟩
      subst w1
      go_wp2_with fail
      go_ret
      exact⟨ret_bool HF.out.symm,Below.refl _ _⟩
  ·have HF:=hideT (inclB_root leaf i n p root h2)
   clear HCF
   generalize p.length=m at hp hcap HD ⊢
   go_enter Tryz.func174,Tryz.ntmps174
   go_wp2_with fail
   go_ret
   exact⟨ret_bool HF.out.symm,Below.refl _ _⟩
 ·have HF:=hideT (inclB_leaf leaf i n p root h1)
  clear HCF
  generalize p.length=m at hp hcap HD ⊢
  go_enter Tryz.func174,Tryz.ntmps174
  go_wp2_with fail
  go_ret
  exact⟨ret_bool HF.out.symm,Below.refl _ _⟩
end Go.Proofs.YtpddanmnlkcdpaaGreatDoor.Tr


namespace Go.Proofs.YtpddanmnlkcdpaaGreatDoor.Tr
open Go.RowKit
open St
open Sh (nodeV nodeV_size l03Node_any)
theorem od_pos (a:Nat) (h:0<a):od a%2=1/\0<od a/\od a<=a:=by
 induction a using Nat.strongRecOn with
 |ind a ih =>
  by_cases he:a%2=0
  ·rw[od_even a he h]
   have:=ih (a/2) (by omega) (by omega)
   omega
  ·rw[od_odd a (by omega)]
   omega
/-- the loop,its conditions met -/
theorem incl_at (leaf root:ByteArray) (i0 n0:Nat) (p:List ByteArray) (b off cap B:Nat) (w:World) (hn:n0<9223372036854775808) (hin:i0<n0) (hp:p.length<=63) (hl:leaf.size=32) (hr:root.size=32) (hw:wide p=true) (hb:b<B) (hc0:∀ j (h:j<p.length),w.cell? ⟨b,off+j,none⟩=some (.string p[j])) (hB:B<=w.heap.size) :
  Calls Tryz.prog 133 #[.string leaf,.int .i64 i0,.int .i64 n0,.slice (some ⟨b,off,none⟩) p.length cap,.string root] w fun e w'=>e=.returned (.bool (decide (incl n0 i0 p leaf=some root)))/\Below w.heap.size w w':=by
 have hs:Strs w B (some ⟨b,off,none⟩) p:=.inr ⟨b,off,rfl,hb,hc0⟩
 have HWd:=hideT (wide_spec _ cap p w B hs (by omega))
 rw[hw]at HWd
 have HC:=hideT hc0
 have HW:=hideT ((wide_yes p).1 hw)
 clear hs hw hc0
 obtain⟨m,hm⟩:∃ m,m=p.length:=⟨_,rfl⟩
 have HM:=hideT hm
 rw[<-hm]at hp HWd ⊢
 clear hm
 have g1:¬(n0:Int)<=i0:=by omega
 have g2:¬n0<=i0:=by omega
 have b1:decide ((63:Int)<(m:Int))=false:=by simp;omega
 have b2:decide ((i0:Int)<0)=false:=by simp
 have b3:decide (n0<=i0)=false:=by simp;omega
 have hn':n0<9223372036854775808:=hn
 go_enter Tryz.func133,Tryz.ntmps133
 go_wp2_with fail
 refine HWd.out.mono ?_
 rintro e w1 ⟨rfl,hw1⟩
 subst w1
 go_wp2_with fail
 go_loopw [14,11,12,13] (fun kv av lv hv wr=>∃ (k x y:Nat) (h:ByteArray),kv=.int .i64 k/\av=.int .i64 x/\lv=.int .i64 y/\hv=.string h/\k<=m/\x<=y/\y<n0/\h.size=32/\incl n0 i0 p leaf=climbS x y (p.drop k) h/\Below w.heap.size w wr) (fun kv _ _ _ _=>m-(intOf kv).toNat)
 case atStart =>
  exact⟨0,i0,n0-1,leaf,rfl,rfl,by go_num,rfl,by omega,by omega,by omega,hl,rfl,Below.refl _ _⟩
 case round =>
  obtain⟨k,x,y,h,rfl,rfl,rfl,rfl,hk,hxy,hy,hh,hinc,hbel⟩:=hrel
  have HB:=hideT hbel
  have HI:=hideT hinc
  clear hbel hinc
  by_cases hlt:k<m
  ·have hkl:k<p.length:=by rw[<-HM.out];exact hlt
   have ci:=(HB.out.cell (p:=⟨b,off+k,none⟩) (by simp;omega)).trans (HC.out k hkl)
   have HSZ:=hideT (HW.out k hkl)
   have HD:=hideT (List.drop_eq_getElem_cons hkl)
   obtain⟨s,hse⟩:∃ s,s=p[k]:=⟨_,rfl⟩
   rw[<-hse]at ci HSZ HD
   clear hse
   have hs32:=HSZ.out
   by_cases hy0:y=0
   ·subst hy0
    have HE:Hid (decide (incl n0 i0 p leaf=some root)=false):=by
     unfold Hid
     rw[HI.out,HD.out,climbS_zero _ _ _ (by simp)]
     rfl
    go_wp2_with fail
    go_ret
    exact⟨ret_bool HE.out.symm,HB.out⟩
   ·have gy:¬(y:Int)=0:=by omega
    by_cases hodd:x%2=1
    ·have go1:(x:Int)%2=1:=by omega
     have HE:=hideT (climbS_odd x y s (p.drop (k+1)) h hy0 hodd)
     go_wp2_with fail
     refine(l03Node_any s h wr (by omega) (by omega)).mono ?_
     rintro e w2 ⟨rfl,hb2⟩
     have HB2:=hideT (HB.out.trans (hb2.mono HB.out.size))
     clear hb2 ci
     go_wp2_with fail
     go_loopw [11,12] (fun av lv wi=>av=.int .i64 x/\lv=.int .i64 y/\wi=w2) (fun _ _ _=>0)
     case atStart=>exact⟨rfl,rfl,rfl⟩
     case round =>
      obtain⟨rfl,rfl,hwi⟩:=hrel
      subst hwi
      go_wp2_with fail
      go_roundw
      case rel =>
       refine⟨k+1,x/2,y/2,nodeV s h,by go_num,by go_num,by go_num,rfl,by omega,by omega,by omega,nodeV_size _ _,?_,HB2.out⟩
       rw[HI.out,HD.out,HE.out]
      case measure=>simp[intOf];omega
    ·have go1:(x:Int)%2=0:=by omega
     by_cases hxy2:x=y
     ·have gxy:(x:Int)=y:=by omega
      have HE:Hid (climbS x y (s :: p.drop (k+1)) h=climbS (od x/2) (od x/2) (p.drop (k+1)) (nodeV s h)):=by
       unfold Hid
       rw[<-hxy2]
       exact climbS_end x s (p.drop (k+1)) h (by omega) (by omega)
      have HXY:=hideT hxy2
      have HO:=hideT (od_pos x (by omega))
      go_wp2_with fail
      refine(l03Node_any s h wr (by omega) (by omega)).mono ?_
      rintro e w2 ⟨rfl,hb2⟩
      have HB2:=hideT (HB.out.trans (hb2.mono HB.out.size))
      clear hb2 ci
      go_wp2_with fail
      go_loopw [11,12] (fun av lv wi=>∃ z:Nat,av=.int .i64 z/\lv=.int .i64 z/\0<z/\z<=x/\od z=od x/\wi=w2) (fun av _ _=>(intOf av).toNat)
      case atStart=>exact⟨x,by rw[HXY.out],by rw[HXY.out],by omega,Nat.le_refl _,rfl,rfl⟩
      case round =>
       obtain⟨z,rfl,rfl,hz0,hzx,hod,hwi⟩:=hrel
       subst hwi
       have HOD:=hideT hod
       clear hod
       have gz:0<(z:Int):=by omega
       by_cases hze:z%2=0
       ·have gz2:(z:Int)%2=0:=by omega
        go_wp2_with fail
        go_roundw
        case rel=>exact⟨z/2,by go_num,by go_num,by omega,by omega,by rw[<-od_even z hze hz0];exact HOD.out,trivial⟩
        case measure=>simp[intOf];omega
       ·have gz2:(z:Int)%2=1:=by omega
        have HZ:Hid (od x=z):=by
         unfold Hid
         rw[<-HOD.out]
         exact od_odd z (by omega)
        go_wp2_with fail
        go_roundw
        case rel =>
         refine⟨k+1,z/2,z/2,nodeV s h,by go_num,by go_num,by go_num,rfl,by omega,by omega,by omega,nodeV_size _ _,?_,HB2.out⟩
         rw[HI.out,HD.out,HE.out,HZ.out]
        case measure=>simp[intOf];omega
     ·have gxy:¬(x:Int)=y:=by omega
      have HE:=hideT (climbS_even x y s (p.drop (k+1)) h hy0 (by omega) hxy2)
      go_wp2_with fail
      refine(l03Node_any h s wr (by omega) (by omega)).mono ?_
      rintro e w2 ⟨rfl,hb2⟩
      have HB2:=hideT (HB.out.trans (hb2.mono HB.out.size))
      clear hb2 ci
      go_wp2_with fail
      go_roundw
      case rel =>
       refine⟨k+1,x/2,y/2,nodeV h s,by go_num,by go_num,by go_num,rfl,by omega,by omega,by omega,nodeV_size _ _,?_,HB2.out⟩
       rw[HI.out,HD.out,HE.out]
      case measure=>simp[intOf];omega
  ·have HD:Hid (p.drop k=[]):=by
    unfold Hid
    exact List.drop_eq_nil_of_le (by have:=HM.out;omega)
   by_cases hy0:y=0
   ·subst hy0
    have HE:Hid (decide (incl n0 i0 p leaf=some root)=decide (h=root)):=by
     unfold Hid
     rw[HI.out,HD.out,climbS_nil,if_pos rfl]
     simp
    go_wp2_with fail
    go_ret
    exact⟨ret_bool (by rw[HE.out];exact str_eq _ _),HB.out⟩
   ·have gy:((y:Int)==0)=false:=by simp;omega
    have HE:Hid (decide (incl n0 i0 p leaf=some root)=false):=by
     unfold Hid
     rw[HI.out,HD.out,climbS_nil,if_neg hy0]
     rfl
    go_wp2_with fail
    go_ret
    exact⟨ret_bool HE.out.symm,HB.out⟩
theorem incl_empty (leaf root:ByteArray) (i0 n0:Nat) (a:Option Addr) (cap:Nat) (w:World) (hn:n0<9223372036854775808) (hin:i0<n0) (hl:leaf.size=32) (hr:root.size=32) :
  Calls Tryz.prog 133 #[.string leaf,.int .i64 i0,.int .i64 n0,.slice a 0 cap,.string root] w fun e w'=>e=.returned (.bool (decide (incl n0 i0 [] leaf=some root)))/\Below w.heap.size w w':=by
 have HWd:=hideT (wide_spec a cap [] w 0 (.inl rfl) (by simp))
 have g1:¬(n0:Int)<=i0:=by omega
 rw[show wide []=true from rfl]at HWd
 go_enter Tryz.func133,Tryz.ntmps133
 go_wp2_with fail
 refine HWd.out.mono ?_
 rintro e w1 ⟨rfl,hw1⟩
 subst w1
 go_wp2_with fail
 go_loopw [14,11,12,13] (fun kv av lv hv wr=>kv=.int .i64 0/\av=.int .i64 i0/\lv=.int .i64 ((n0:Int)-1)/\hv=.string leaf/\wr=w) (fun _ _ _ _ _=>0)
 case atStart=>exact⟨rfl,rfl,rfl,rfl,rfl⟩
 case round =>
  obtain⟨rfl,rfl,rfl,rfl,hw⟩:=hrel
  subst hw
  by_cases h1:n0=1
  ·subst h1
   obtain rfl:i0=0:=by omega
   have HE:Hid (decide (incl 1 0 [] leaf=some root)=decide (leaf=root)):=by
    unfold Hid
    rw[incl_one,if_pos rfl]
    simp
   go_wp2_with fail
   go_ret
   exact⟨ret_bool (by rw[HE.out];exact str_eq _ _),Below.refl _ _⟩
  ·have HE:Hid (decide (incl n0 i0 [] leaf=some root)=false):=by
    unfold Hid
    rw[incl_none n0 i0 leaf (by omega)]
    rfl
   have gy:((n0:Int)-1==0)=false:=by simp;omega
   go_wp2_with fail
   go_ret
   exact⟨ret_bool HE.out.symm,Below.refl _ _⟩
theorem incl_in (leaf root:ByteArray) (i0 n0:Nat) (p:List ByteArray) (a:Option Addr) (cap B:Nat) (w:World) (hn:n0<9223372036854775808) (hin:i0<n0) (hp:p.length<=63) (hl:leaf.size=32) (hr:root.size=32) (hw:wide p=true) (hs:Strs w B a p) (hB:B<=w.heap.size) :
  Calls Tryz.prog 133 #[.string leaf,.int .i64 i0,.int .i64 n0,.slice a p.length cap,.string root] w fun e w'=>e=.returned (.bool (decide (incl n0 i0 p leaf=some root)))/\Below w.heap.size w w':=by
 rcases hs with rfl|⟨b,off,rfl,hb,hc⟩
 ·exact incl_empty leaf root i0 n0 a cap w hn hin hl hr
 ·exact incl_at leaf root i0 n0 p b off cap B w hn hin hp hl hr hw hb hc hB
theorem incl_spec (leaf root:ByteArray) (i n:Int) (p:List ByteArray) (a:Option Addr) (cap B:Nat) (w:World) (hn:n<9223372036854775808) (hp:p.length<=1048576) (hs:Strs w B a p) (hB:B<=w.heap.size) :
  Calls Tryz.prog 133 #[.string leaf,.int .i64 i,.int .i64 n,.slice a p.length cap,.string root] w fun e w'=>e=.returned (.bool (inclB leaf i n p root))/\Below w.heap.size w w':=by
 have HD:=hideT (wide_spec a cap p w B hs hp)
 have HIN:=hideT (fun (i0 n0:Nat) h1 h2 h3 h4 h5 h6=>incl_in leaf root i0 n0 p a cap B w h1 h2 h3 h4 h5 h6 hs hB)
 have HPath:=hideT (inclB_path leaf i n p root)
 clear hs
 by_cases h63:63<p.length
 ·have HF:=hideT (HPath.out (by rw[decide_eq_false (by omega)];rfl))
  generalize p.length=m at hp HD h63 ⊢
  go_enter Tryz.func133,Tryz.ntmps133
  go_wp2_with fail
  go_ret
  exact⟨ret_bool HF.out.symm,Below.refl _ _⟩
 ·cases h3:wide p with
  |false =>
   have HF:=hideT (HPath.out (by rw[h3,Bool.and_false]))
   rw[h3]at HD
   clear h3
   generalize p.length=m at hp HD h63 ⊢
   go_enter Tryz.func133,Tryz.ntmps133
   go_wp2_with fail
   refine HD.out.mono ?_
   rintro e w1 ⟨rfl,hw⟩
   subst w1
   go_wp2_with fail
   go_ret
   exact⟨ret_bool HF.out.symm,Below.refl _ _⟩
  |true =>
   have HT:Hid ((decide (p.length<=63) && wide p)=true):=by
    unfold Hid
    rw[h3,decide_eq_true (by omega)]
    rfl
   by_cases hl:leaf.size=32
   ·by_cases hr:root.size=32
    ·by_cases hi0:i<0
     ·have HF:=hideT (inclB_low leaf i n p root hi0)
      rw[h3]at HD
      clear h3 HIN
      generalize p.length=m at hp HD h63 ⊢
      go_enter Tryz.func133,Tryz.ntmps133
      go_wp2_with fail
      refine HD.out.mono ?_
      rintro e w1 ⟨rfl,hw⟩
      subst w1
      go_wp2_with fail
      go_ret
      exact⟨ret_bool HF.out.symm,Below.refl _ _⟩
     ·by_cases hin:i<n
      ·obtain⟨i',rfl⟩:∃ k:Nat,i=k:=⟨i.toNat,by omega⟩
       obtain⟨n',rfl⟩:∃ k:Nat,n=k:=⟨n.toNat,by omega⟩
       rw[inclB_in leaf i' n' p root hl hr HT.out (by omega)]
       exact HIN.out i' n' (by omega) (by omega) (by omega) hl hr h3
      ·have HF:=hideT (inclB_high leaf i n p root hin)
       have hin':n<=i:=by omega
       rw[h3]at HD
       clear h3 HIN
       generalize p.length=m at hp HD h63 ⊢
       go_enter Tryz.func133,Tryz.ntmps133
       go_wp2_with fail
       refine HD.out.mono ?_
       rintro e w1 ⟨rfl,hw⟩
       subst w1
       go_wp2_with fail
       go_ret
       exact⟨ret_bool HF.out.symm,Below.refl _ _⟩
    ·have HF:=hideT (inclB_root leaf i n p root hr)
     rw[h3]at HD
     clear h3 HIN
     generalize p.length=m at hp HD h63 ⊢
     go_enter Tryz.func133,Tryz.ntmps133
     go_wp2_with fail
     refine HD.out.mono ?_
     rintro e w1 ⟨rfl,hw⟩
     subst w1
     go_wp2_with fail
     go_ret
     exact⟨ret_bool HF.out.symm,Below.refl _ _⟩
   ·have HF:=hideT (inclB_leaf leaf i n p root hl)
    rw[h3]at HD
    clear h3 HIN
    generalize p.length=m at hp HD h63 ⊢
    go_enter Tryz.func133,Tryz.ntmps133
    go_wp2_with fail
    refine HD.out.mono ?_
    rintro e w1 ⟨rfl,hw⟩
    subst w1
    go_wp2_with fail
    go_ret
    exact⟨ret_bool HF.out.symm,Below.refl _ _⟩
end Go.Proofs.YtpddanmnlkcdpaaGreatDoor.Tr


namespace Go.Proofs.YtpddanmnlkcdpaaGreatDoor.Ls
open Go.RowKit
open Bk (cnt count_any)
open Bi (is_yes is_no)
open Tr (inclB incl_impl incl_spec inclB_leaf)
open Sh (Vars leafR leafV leafR_no leafR_yes leaf_impl l03Leaf_any)
open St (Strs)
def fitsB (z b:Int) (r:ByteArray) (i:Int) (t:ByteArray) (p:List ByteArray):Bool:=inclB (leafR t) i ((countN z b r:Nat):Int) p r
theorem mixedF:Tryz.prog.follows .mixedOrders=true:=by kernel_rfl
theorem vars_keepF {w w':World} (h:Vars w) (hb:Below w.heap.size w w'):Vars w':=h.below hb h.two
theorem inclB_range {leaf:ByteArray} {i n:Int} {p:List ByteArray} {root:ByteArray} (h:¬(0<=i/\i<n)):inclB leaf i n p root=false:=by
 unfold inclB
 rw[<-Bool.not_eq_true]
 simp only[Bool.and_eq_true,decide_eq_true_eq]
 exact fun q=>h ⟨q.1.1.2,q.1.2⟩
theorem fits_piece {z b:Int} {r:ByteArray} {i:Int} {t:ByteArray} {p:List ByteArray} (h:100<t.size):fitsB z b r i t p=false:=by
 unfold fitsB
 rw[leafR_no t h]
 exact inclB_leaf _ _ _ _ _ (by decide)
theorem fits_impl (z b:Int) (r:ByteArray) (i:Int) (t:ByteArray) (p:List ByteArray) (a:Option Addr) (cap m:Nat) (w:World) (ht:t.size<=maxLen) (hm:m=p.length) (hp:m<=1048576) (hcap:m<=cap) (hs:Strs w w.heap.size a p) (hV:Vars w) :
  Calls Tryz.prog 138 #[lV z b r,.int .i64 i,.string t,.slice a m cap] w fun e w'=>e=.returned (.bool (fitsB z b r i t p))/\Below w.heap.size w w':=by
 have HA:Hid (Below w.heap.size w (w.alloc (.cells #[.int .i64 z,.int .i64 b,.string r] 30))):=(Below.refl _ _).alloc (Nat.le_refl _) _
 have HX:Hid ((w.alloc (.cells #[.int .i64 z,.int .i64 b,.string r] 30)).heap[w.heap.size]? = some (.cells #[.int .i64 z,.int .i64 b,.string r] 30 (0,0))):=heap_alloc_new w _
 have HC:=hideL (fun W=>count_impl z b r W)
 have HL:=hideL (fun W h=>leaf_impl t W ht h)
 have HCL:=countN_le z b r
 have HI:Hid (∀ W,Below w.heap.size w W->Calls Tryz.prog 174 #[.string (leafR t),.int .i64 i,.int .i64 (countN z b r:Nat),.slice a m cap,.string r] W fun e w'=>e=.returned (.bool (fitsB z b r i t p))/\Below W.heap.size W w'):=fun W h=>by
  have:=incl_impl (leafR t) r i (countN z b r:Nat) p a cap W.heap.size W (by omega) (by omega) (by omega) ((hs.below h).mono h.size) (Nat.le_refl _) (vars_keepF hV h)
  rw[<-hm]at this
  exact this
 have HV:Hid (∀ W,Below w.heap.size w W->Vars W):=fun W h=>vars_keepF hV h
 have hmx:=mixedF
 clear hs hV hm
 unfold lV at HC ⊢
 generalize fitsB z b r i t p=Q at HI ⊢
 generalize leafR t=lf at HI HL
 generalize countN z b r=cn at HI HC
 go_enter Tryz.func138,Tryz.ntmps138
 go_wp2_with fail
 generalize hww:w.alloc (.cells #[.int .i64 z,.int .i64 b,.string r] 30)=wa at HA HX ⊢
 clear hww
 obtain⟨c0,c1,c2⟩:=cells3 HX.out
 generalize w.heap.size=gx at c0 c1 c2 ⊢
 have g0:=fun d os=>cell_regrown c0 d os
 have g1:=fun d os=>cell_regrown c1 d os
 have g2:=fun d os=>cell_regrown c2 d os
 refine wp_region_quiet_below (by assumption) (by kernel_rfl) ?_
 repeat (quiet_step (first|(go_at_call 175;exact Calls.regrown_of (HL.out _ (HV.out _ (lowL HA.out (below_regrown _ _ _)))))|(go_at_call 68;exact Calls.regrown_of (HC.out _))|(go_at_call 174;exact Calls.regrown_of (HI.out _ (lowL HA.out (below_regrown _ _ _))))))
 refine wpQuiet_nil ?_
 intro _ hw'
 obtain⟨⟨dq,osq⟩,hw''⟩:=hw'
 subst hw''
 have KQ:=hideL (below_regrown wa dq osq)
 generalize Go.Sort.grow (redrawn wa dq) osq=w8 at KQ ⊢
 clear g0 g1 g2 c0 c1 c2
 go_wp2_with fail
 go_ret
 exact⟨rfl,lowL HA.out KQ.out⟩
end Go.Proofs.YtpddanmnlkcdpaaGreatDoor.Ls


namespace Go.Proofs.YtpddanmnlkcdpaaGreatDoor.Pe
open Go.RowKit Go.ChangeShapes Go.WideShapes Go.ChangeAt Go.Deep
open Kp
open In (Ints)
theorem array6 {α:Type} {cs:Array α} (h:cs.size=6):∃ c0 c1 c2 c3 c4 c5,cs=#[c0,c1,c2,c3,c4,c5]:=by
 obtain⟨l⟩:=cs
 match l,h with
 |[c0,c1,c2,c3,c4,c5],_=>exact⟨c0,c1,c2,c3,c4,c5,rfl⟩
theorem list5 {α:Type} {cs:List α} (h:cs.length=5):∃ c0 c1 c2 c3 c4,cs=[c0,c1,c2,c3,c4]:=by
 match cs,h with
 |[c0,c1,c2,c3,c4],_=>exact⟨c0,c1,c2,c3,c4,rfl⟩
theorem cellsPeer:Tryz.prog.cellsOf 28=6:=by kernel_rfl
theorem cellsOther:Tryz.prog.cellsOf 106=5:=by kernel_rfl
theorem cellsIs:Tryz.prog.cellsOf 84=1:=by kernel_rfl
theorem cellsOs:Tryz.prog.cellsOf 26=1:=by kernel_rfl
theorem choose_list {α:Type} {P:Nat->α->Prop}:∀ n,(∀ i,i<n->∃ x,P i x)->∃ m:List α,m.length=n/\∀ i (h:i<m.length),P i m[i]
 |0,_=>⟨[],rfl,fun i h=>absurd h (Nat.not_lt_zero _)⟩
 |n+1,h=>by
  obtain⟨m,hl,hm⟩:=choose_list n (fun i hi=>h i (by omega))
  obtain⟨x,hx⟩:=h n (by omega)
  refine⟨m++[x],by rw[List.length_append,hl];rfl,fun i hi=>?_⟩
  by_cases hin:i<m.length
  ·rw[List.getElem_append_left hin]
   exact hm i hin
  ·rw[List.length_append]at hi
   simp at hi
   obtain rfl:i=m.length:=by omega
   rw[List.getElem_append_right (Nat.le_refl _)]
   simp
   rw[hl]
   exact hx
section
variable {H : Type} {enc : TypeId × Value → H} {W : World} {base : Nat} {sp : Nat → Bool} {held : Bool}
theorem trod_struct5 {t:TypeId} {f0 f1 f2 f3 f4:Field} {fuel:Nat} {cs:List Value} {x:DataW H × List MemPlace} (ht:Tryz.prog.underlying t=some (.struct #[f0,f1,f2,f3,f4])) (h:DataW.trod enc Tryz.prog W base sp held fuel t cs=some x) :
  ∃ y0 y1 y2 y3 y4 n,cs.length=Tryz.prog.cellsOf t/\DataW.trod enc Tryz.prog W base sp held n f0.type ((cs.drop f0.offset).take (Tryz.prog.cellsOf f0.type))=some y0 /\
   DataW.trod enc Tryz.prog W base sp held n f1.type ((cs.drop f1.offset).take (Tryz.prog.cellsOf f1.type))=some y1/\DataW.trod enc Tryz.prog W base sp held n f2.type ((cs.drop f2.offset).take (Tryz.prog.cellsOf f2.type))=some y2 /\
   DataW.trod enc Tryz.prog W base sp held n f3.type ((cs.drop f3.offset).take (Tryz.prog.cellsOf f3.type))=some y3/\DataW.trod enc Tryz.prog W base sp held n f4.type ((cs.drop f4.offset).take (Tryz.prog.cellsOf f4.type))=some y4:=by
 obtain⟨xs,n,_,rfl,hl,hlen,hf⟩:=DataW.trod_struct ht h
 match xs,hlen with
 |[y0,y1,y2,y3,y4],_=>exact⟨y0,y1,y2,y3,y4,n,hl,by simpa using hf 0 f0 rfl,by simpa using hf 1 f1 rfl,by simpa using hf 2 f2 rfl,by simpa using hf 3 f3 rfl,by simpa using hf 4 f4 rfl⟩
theorem open_has {fuel:Nat} {c:Value} {x:DataW H × List MemPlace} (h:DataW.trod enc Tryz.prog W base sp held fuel 84 [c]=some x):∃ (a:Option Addr) (cap:Nat) (l:List Int),c=.slice a l.length cap/\l.length<=cap/\(a=none->cap=0)/\Ints W W.heap.size a l/\l.length<=maxLen:=by
 rcases open_ints Tryz.underlying84 Tryz.underlying2 (by kernel_rfl) h with⟨hcs,_⟩|⟨x,l,c',zs,hcs,_,hl,hm,hz,_,hcell,hwz⟩
 ·simp at hcs
  exact⟨none,0,[],by rw[hcs];rfl,Nat.le_refl _,fun _=>rfl,.inl rfl,by decide⟩
 ·simp at hcs
  have hzl:l<=zs.length:=by rw[hz];split<;>omega
  refine⟨some x,c',zs.take l,(by rw[hcs,List.length_take,Nat.min_eq_left hzl]),(by rw[List.length_take];omega),(fun h=>(by cases h)),?_,(by rw[List.length_take];omega)⟩
  rcases Nat.eq_zero_or_pos l with h0|h0
  ·subst h0
   exact .inl (List.take_zero ..)
  ·obtain⟨b,off,spot⟩:=x
   have hc0:=hcell 0 (by omega)
   have hspot:spot=none:=by simpa [Addr.add] using World.cell?_spot hc0
   subst hspot
   have e:∀ i,(⟨b,off,none⟩:Addr).add i=⟨b,off+i,none⟩:=fun i=>by unfold Addr.add;split<;>simp_all
   have hlt:=World.block_lt_of_cell? W _ hc0
   rw[e 0]at hlt
   refine .inr ⟨b,off,rfl,hlt,fun j hj=>?_⟩
   rw[List.length_take]at hj
   have hj':j<zs.length:=by omega
   rw[<-e j,hcell j hj',List.getElem_take,List.getD_eq_getElem?_getD,List.getElem?_eq_getElem hj']
   rfl
theorem open_other {fuel:Nat} {cs:List Value} {x:DataW H × List MemPlace} (h:DataW.trod enc Tryz.prog W base sp held fuel 106 cs=some x):∃ y:MO,cs=five y/\HasAt W W.heap.size y/\y.1.has.length<=maxLen/\y.1.name.size<=maxLen:=by
 obtain⟨y0,y1,y2,y3,y4,n,hl,h0,h1,h2,h3,h4⟩:=trod_struct5 Tryz.underlying106 h
 obtain⟨c0,c1,c2,c3,c4,rfl⟩:=list5 (hl.trans cellsOther)
 simp only[cellsStr,cellsI64,cellsIs,List.drop_succ_cons,List.drop_zero,List.take_succ_cons,List.take_zero]at h0 h1 h2 h3 h4
 obtain⟨nm,hnm,_,wn⟩:=DataW.trod_string Tryz.underlying9 h0
 obtain⟨a,cap,l,hc1,hlc,hno,hi,hlm⟩:=open_has h1
 obtain⟨q,hq,_,wq⟩:=DataW.trod_int Tryz.underlying2 h2
 obtain⟨g,hg,_,wg⟩:=DataW.trod_int Tryz.underlying2 h3
 obtain⟨t,ht,_,wt⟩:=DataW.trod_int Tryz.underlying2 h4
 simp at hnm hq hg ht
 subst hnm hc1 hq hg ht
 exact⟨(⟨nm,l,q,g,t⟩,.slice a l.length cap),rfl,⟨a,cap,rfl,hlc,hno,hi⟩,hlm,wn⟩
theorem open_oths {fuel:Nat} {c:Value} {x:DataW H × List MemPlace} (h:DataW.trod enc Tryz.prog W base sp held fuel 26 [c]=some x):∃ (a:Option Addr) (n cap:Nat) (m:List MO),c=.slice a n cap/\m.length=n/\n<=maxLen/\Oths W W.heap.size a m/\Lens m:=by
 rcases open_slice Tryz.underlying26 h with⟨hcs,_⟩|⟨a,len,cap,k,n,D,Pl,hcs,_,hl,hm,hk,_,hel⟩
 ·simp at hcs
  exact⟨none,0,0,[],hcs,rfl,by decide,oths_nil _ _ _,fun x hx=>absurd hx List.not_mem_nil⟩
 ·simp at hcs
  have hlk:len<=k:=by rw[hk];split<;>omega
  obtain⟨b0,off0,spot⟩:=a
  have hspot:0<len->spot=none:=fun h0=>by
   obtain⟨cs',hc,ht⟩:=hel 0 (by omega)
   obtain⟨y,hy,_⟩:=open_other ht
   rw[cellsOther,hy]at hc
   have q0:W.cell? (((⟨b0,off0,spot⟩:Addr).add (0*5)).add 0)=some (.string y.1.name):=(World.cells?_some hc).2.2 0 (by decide)
   simpa [Addr.add] using World.cell?_spot q0
  obtain⟨m,hml,hmp⟩:=choose_list (P:=fun i (y:MO)=>(∃ b off,(⟨b0,off0,spot⟩:Addr)=⟨b,off,none⟩/\b<W.heap.size/\FiveAt W b (off+i*5) y)/\HasAt W W.heap.size y/\y.1.has.length<=maxLen/\y.1.name.size<=maxLen) len (fun i hi=>by
   obtain⟨cs',hc,ht⟩:=hel i (by omega)
   obtain⟨y,hy,h1,h2,h3⟩:=open_other ht
   refine⟨y,?_,h1,h2,h3⟩
   rw[cellsOther,hy]at hc
   have hcc:=(World.cells?_some hc).2.2
   have q0:=hcc 0 (by decide)
   have q1:=hcc 1 (by decide)
   have q2:=hcc 2 (by decide)
   have q3:=hcc 3 (by decide)
   have q4:=hcc 4 (by decide)
   obtain rfl:=hspot (by omega)
   have e:∀ i j,((⟨b0,off0,none⟩:Addr).add i).add j=⟨b0,off0+i+j,none⟩:=fun i j=>by rw[Addr.add_lit,Addr.add_lit]
   rw[e]at q0 q1 q2 q3 q4
   simp[five]at q0 q1 q2 q3 q4
   exact⟨b0,off0,rfl,World.block_lt_of_cell? W _ q0,q0,q1,q2,q3,q4⟩)
  refine⟨some ⟨b0,off0,spot⟩,len,cap,m,hcs,hml,by omega,⟨?_,fun y hy=>?_⟩,fun y hy=>?_⟩
  ·rcases Nat.eq_zero_or_pos len with h0|h0
   ·exact .inl (List.eq_nil_of_length_eq_zero (by omega))
   ·obtain⟨⟨b,off,he0,hb,_⟩,_⟩:=hmp 0 (by omega)
    simp at he0
    obtain⟨rfl,rfl,rfl⟩:=he0
    refine .inr ⟨b0,off0,rfl,hb,fun j hj=>?_⟩
    obtain⟨⟨b',off',he,_,hf⟩,_⟩:=hmp j hj
    simp at he
    obtain⟨rfl,rfl⟩:=he
    exact hf
  ·obtain⟨j,hj,rfl⟩:=List.getElem_of_mem hy
   exact(hmp j hj).2.1
  ·obtain⟨j,hj,rfl⟩:=List.getElem_of_mem hy
   exact(hmp j hj).2.2
theorem open_peer {rc:Reach} {b0:Nat} {v:Value} {d:DataW H} {p:List MemPlace}
  (hv:Value.okWide Tryz.prog W rc b0 28 v) (h:DataW.Trod enc Tryz.prog W base sp held 28 v d p) :
  ∃ (z b:Int) (r s:ByteArray) (y:Int) (a:Option Addr) (n cap:Nat) (m:List MO),v=lpV z b r s y (.slice a n cap)/\r.size<=maxLen/\s.size<=maxLen/\m.length=n/\n<=maxLen/\Oths W W.heap.size a m/\Lens m:=by
 obtain⟨cs,rfl,hsz⟩:=okWide_struct Tryz.underlying28 hv
 obtain⟨c0,c1,c2,c3,c4,c5,rfl⟩:=array6 (hsz.trans cellsPeer)
 obtain⟨fuel,hf⟩:=h
 obtain⟨y0,y1,n,_,_,hk,ho⟩:=trod_struct2 Tryz.underlying28 hf
 simp only[cellsKeep,cellsOs,Value.cells,List.drop_succ_cons,List.drop_zero,List.take_succ_cons,List.take_zero]at hk ho
 obtain⟨y2,y3,y4,n',_,_,h0,h1,h2⟩:=trod_struct3 Tryz.underlying25 hk
 simp only[cellsList,cellsStr,cellsI64,List.drop_succ_cons,List.drop_zero,List.take_succ_cons,List.take_zero]at h0 h1 h2
 obtain⟨x0,x1,x2,m',_,_,k0,k1,k2⟩:=trod_struct3 Tryz.underlying23 h0
 simp only[cellsStr,cellsI64,List.drop_succ_cons,List.drop_zero,List.take_succ_cons,List.take_zero]at k0 k1 k2
 obtain⟨z,hz,_,wz⟩:=DataW.trod_int Tryz.underlying2 k0
 obtain⟨b,hb,_,wb⟩:=DataW.trod_int Tryz.underlying2 k1
 obtain⟨r,hr,_,wr⟩:=DataW.trod_string Tryz.underlying9 k2
 obtain⟨s,hs,_,ws⟩:=DataW.trod_string Tryz.underlying9 h1
 obtain⟨y,hy,_,wy⟩:=DataW.trod_int Tryz.underlying2 h2
 obtain⟨a,k,cap,m,hc5,hm,hkm,hos,hl⟩:=open_oths ho
 simp at hz hb hr hs hy
 subst hz hb hr hs hy hc5
 exact⟨z,b,r,s,y,a,k,cap,m,rfl,wr,ws,hm,hkm,hos,hl⟩
end
end Go.Proofs.YtpddanmnlkcdpaaGreatDoor.Pe

