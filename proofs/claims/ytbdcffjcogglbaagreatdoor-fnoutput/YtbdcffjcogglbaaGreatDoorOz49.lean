import Derived.ProofKit
import Derived.ShutString
import Derived.ChangeOld
import Derived.ChangeSame
import Derived.OpenVars
import Derived.LaidMore
import Derived.Test.YtbdcffjcogglbaaGreatDoorOz42
import Derived.Test.YtbdcffjcogglbaaGreatDoorOz46
set_option maxRecDepth 100000
set_option maxHeartbeats 8000000
namespace Go.Proofs.YtbdcffjcogglbaaGreatDoor
open Go.RowKit
open Go.Proofs.Tryz
namespace Sh
theorem arr_cells {H:Type} {enc:TypeId × Value->H} {P:Program} {w:World} {base:Nat} {sp:Nat->Bool} {held:Bool} {fuel:Nat} {t e:TypeId} {n:Nat} {k:IntKind} {cs:Array Value} {zs:List Int} {p:List MemPlace}
  (ht:P.underlying t=some (.array n e)) (he:P.underlying e=some (.int k)) (hc:P.cellsOf e=1) (hct:P.cellsOf t=n) (hz:zs.length=n)
  (h:DataW.trod enc P w base sp held fuel t cs.toList=some (.agg (zs.map fun z=>.lit (.int k z)),p)):cs=rowF k n (fun j=>zs.getD j 0):=by
 obtain⟨xs,m,rfl,hx,hl,hxl,hall⟩:=DataW.trod_array ht h
 have hxs:xs.map (·.1)=zs.map fun z=>(DataW.lit (.int k z):DataW H):=by
  have:=congrArg Prod.fst hx
  simpa using this.symm
 apply Array.ext_getElem?
 intro i;by_cases hi:i<n
 ·rw[rowF_get k n _ i hi]
  have h1:=hall i hi;obtain⟨b,hb⟩:∃ b,xs[i]? = some b:=⟨xs[i]'(by omega),List.getElem?_eq_getElem (by omega)⟩;rw[hb,hc]at h1;obtain⟨z,hcz,rfl,_⟩:=DataW.trod_int he h1
  have h2:cs.toList[i]? = some (.int k z):=by
   have:=congrArg (·[0]?) hcz
   simpa [List.getElem?_take,List.getElem?_drop] using this
  have h3:(xs.map (·.1))[i]? = some (DataW.lit (.int k z):DataW H):=by simp[hb]
  rw[hxs]at h3;simp only[List.getElem?_map,Option.map_eq_some_iff,DataW.lit.injEq,Lit.int.injEq,true_and]at h3;obtain⟨z',hz',rfl⟩:=h3;rw[<-Array.getElem?_toList,h2];simp[List.getD,hz']
 ·have h1:(rowF k n (fun j=>zs.getD j 0))[i]? = none:=by simp[rowF,hi]
  rw[h1,<-Array.getElem?_toList];exact List.getElem?_eq_none (by omega)
theorem var_block {P:Program} {w:World} {n:String} {g:Nat} {cs:Array Value} (hg:P.globalNamed n=some g) (h:w.var? P n=some cs):∃ t fr,w.heap[g]? = some (.cells cs t fr):=by
 unfold World.var? at h;rw[hg]at h;simp only[Option.bind_some]at h
 split at h
 ·rename_i c t fr hh
  obtain rfl:=Option.some.inj h;exact⟨t,fr,hh⟩
 ·cases h
theorem gFirst:prog.globalNamed "loop.example/g00550/impl.firstState"=some 1:=by kernel_rfl
theorem gRound:prog.globalNamed "loop.example/g00550/impl.roundNumbers"=some 2:=by kernel_rfl
theorem tFirst:(prog.globals[1]?).map (·.type)=some 145:=by kernel_rfl
theorem tRound:(prog.globals[2]?).map (·.type)=some 192:=by kernel_rfl
theorem vars_of_laid {W:World} (h:laidMetH prog [("loop.example/g00550/impl.firstState",Rows.laid_loop_example_g00550_impl_firstState),("loop.example/g00550/impl.roundNumbers",Rows.laid_loop_example_g00550_impl_roundNumbers)] W):Vars W:=by
 rw[MakeChecks.laidMetH_plain _ _ _ (by kernel_rfl)]at h;obtain⟨ps,⟨g0,t0,cs0,f0,p0,q0,hg0,ht0,hv0,hd0,⟨g1,t1,cs1,f1,p1,q1,hg1,ht1,hv1,hd1,_,_⟩,_⟩,_,_⟩:=h;obtain rfl:=Option.some.inj (gFirst.symm.trans hg0);obtain rfl:=Option.some.inj (gRound.symm.trans hg1);obtain rfl:=Option.some.inj (tFirst.symm.trans ht0);obtain rfl:=Option.some.inj (tRound.symm.trans ht1);have e0:=arr_cells (zs:=firstL) underlying145 underlying144 (by kernel_rfl) (by kernel_rfl) rfl hd0;have e1:=arr_cells (zs:=keyL) underlying192 underlying144 (by kernel_rfl) (by kernel_rfl) rfl hd1;subst e0;subst e1;exact⟨var_block hg0 hv0,var_block hg1 hv1⟩
end Sh
namespace Kp
open Ls (lV cells3)
end Kp
namespace Kp
open Go.RowKit Go.ChangeShapes Go.WideShapes Go.ChangeAt Go.Deep
end Kp
namespace Kp
open Go.RowKit Go.ChangeShapes Go.WideShapes Go.ChangeAt Go.Deep
open Ls (HH)
open Sh (Vars)
theorem etK:prog.globalNamed "errors.errorType"=some 3:=by kernel_rfl
theorem rtK:(prog.cutTypes.find? (·.1 == "internal/reflectlite.rtype")).map (·.2)=some 182:=by kernel_rfl
theorem oneRowK:((List.range 296).filter fun t=>prog.rowNamed t [101,114,114,111,114])=[85]:=by kernel_rfl
theorem typesSizeK:prog.types.size=296:=by kernel_rfl
theorem both_of_laid {W:World} (h:laidMetH prog [("errors.errorType",Rows.laid_errors_errorType),("loop.example/g00550/impl.firstState",Rows.laid_loop_example_g00550_impl_firstState),("loop.example/g00550/impl.roundNumbers",Rows.laid_loop_example_g00550_impl_roundNumbers)] W):HH W/\Vars W:=by
 have h':laidMet prog [("loop.example/g00550/impl.firstState",Rows.laid_loop_example_g00550_impl_firstState),("loop.example/g00550/impl.roundNumbers",Rows.laid_loop_example_g00550_impl_roundNumbers)] W/\handlesMet prog [("errors.errorType",Rows.laid_errors_errorType)] W:=h;refine⟨?_,Sh.vars_of_laid (by rw[MakeChecks.laidMetH_plain _ _ _ (by kernel_rfl)];exact h'.1)⟩;obtain⟨name,u,ty,e1,e2,e3,e4,e5⟩:=h'.2 _ (List.mem_singleton.2 rfl);have en:name=[101,114,114,111,114]:=(Option.some.inj e1).symm;subst en;obtain rfl:=Option.some.inj (rtK.symm.trans e2);have hm:ty∈(List.range 296).filter fun t=>prog.rowNamed t [101,114,114,111,114]:=List.mem_filter.2 ⟨List.mem_range.2 (by rw[<-typesSizeK];exact e3),e4⟩;rw[oneRowK]at hm;obtain rfl:=List.mem_singleton.1 hm
 have hh:typeHandle prog 85=.pointer (some ⟨4,85,none⟩):=by kernel_rfl
 rw[hh]at e5
 show W.cell? ⟨3,0,none⟩=some Gn.handle
 unfold Gn.handle
 simpa using World.var?_cell etK e5 0
end Kp
namespace Kp
open Go.RowKit Go.ChangeShapes Go.WideShapes Go.ChangeAt Go.Deep
open Ls (HH)
open Sh (Vars)
open Up (Glob)
theorem laid_tail {P:Program} {x:String × DataW Unit} {l:List (String × DataW Unit)} {w:World} (h:laidMet P (x :: l) w):laidMet P l w:=by
 obtain⟨ps,⟨g0,t0,cs0,f0,p0,q0,hg0,ht0,hv0,hd0,hq0,e0⟩,hn,hr⟩:=h;subst e0;exact⟨q0,hq0,(List.nodup_append.1 hn).2.1,fun b off hm=>hr b off (List.mem_append_right _ hm)⟩
theorem laid_front {P:Program} {x y z:String × DataW Unit} {w:World} (h:laidMet P [x,y,z] w):laidMet P [x,y] w:=by
 obtain⟨ps,⟨g0,t0,cs0,f0,p0,q0,hg0,ht0,hv0,hd0,⟨g1,t1,cs1,f1,p1,q1,hg1,ht1,hv1,hd1,hq1,e1⟩,e0⟩,hn,hr⟩:=h;subst e1;subst e0
 have hsub:(MemPlace.row ⟨g0,0,none⟩ cs0.size++p0++(MemPlace.row ⟨g1,0,none⟩ cs1.size++p1++[])).Sublist (MemPlace.row ⟨g0,0,none⟩ cs0.size++p0++(MemPlace.row ⟨g1,0,none⟩ cs1.size++p1++q1)) :=
  (List.Sublist.refl _).append ((List.Sublist.refl _).append (List.nil_sublist _))
 exact⟨_,⟨g0,t0,cs0,f0,p0,_,hg0,ht0,hv0,hd0,⟨g1,t1,cs1,f1,p1,[],hg1,ht1,hv1,hd1,rfl,rfl⟩,rfl⟩,List.Pairwise.sublist hsub hn,fun b off hm=>hr b off (hsub.subset hm)⟩
theorem all_of_laid {W:World} (h:laidMetH prog [("errors.errorType",Rows.laid_errors_errorType),("loop.example/g00550/impl.firstState",Rows.laid_loop_example_g00550_impl_firstState),("loop.example/g00550/impl.roundNumbers",Rows.laid_loop_example_g00550_impl_roundNumbers),("loop.example/g00550/impl.errNoBlock",Rows.laid_loop_example_g00550_impl_errNoBlock)] W):HH W/\Vars W/\∃ a:Addr,Glob W (.iface 264 (.pointer (some a))):=by
 have h':laidMet prog [("loop.example/g00550/impl.firstState",Rows.laid_loop_example_g00550_impl_firstState),("loop.example/g00550/impl.roundNumbers",Rows.laid_loop_example_g00550_impl_roundNumbers),("loop.example/g00550/impl.errNoBlock",Rows.laid_loop_example_g00550_impl_errNoBlock)] W/\handlesMet prog [("errors.errorType",Rows.laid_errors_errorType)] W:=h;have h2:=both_of_laid (W:=W) (show laidMet prog [("loop.example/g00550/impl.firstState",Rows.laid_loop_example_g00550_impl_firstState),("loop.example/g00550/impl.roundNumbers",Rows.laid_loop_example_g00550_impl_roundNumbers)] W/\handlesMet prog [("errors.errorType",Rows.laid_errors_errorType)] W from ⟨laid_front h'.1,h'.2⟩);exact⟨h2.1,h2.2,Up.glob_of_met (laid_tail (laid_tail h'.1))⟩
end Kp
namespace Up
open Pk
open Se (sealV unsealV outV unseal_back fourS_size)
open Bk (blks blocksR cnt fineB)
theorem calls_some {P:Program} {f:FuncId} {args:Array Value} {w:World} {R:Ending->World->Prop} (h:Calls P f args w R):∃ e w',R e w':=by
 obtain⟨e,w',_,hr,_⟩:=h [];exact⟨e,w',hr⟩
theorem good_size {t b:ByteArray} (h:Good t b):1<=t.size/\t.size<=8000:=by
 have h1:=h.1;have h2:=h.2.1;have h3:=h.2.2
 constructor
 ·rw[h2]
  show 1<=(shortL b).toArray.size
  rw[List.size_toArray];unfold shortL;simp
 ·rw[h2]
  omega
theorem packB_inner {b:ByteArray} (h:b.size<=48):packB b=sealV (innerV b):=if_neg (by omega)
theorem packB_size {b:ByteArray} (h:b.size<=48):(packB b).size<=b.size+5/\4<=(packB b).size:=by
 rw[packB_inner h]
 have h1:(innerV b).size<=b.size+1:=by
  unfold innerV
  split
  ·omega
  ·rw[plainV_size];exact nl
 unfold sealV;rw[if_pos (by omega),ByteArray.size_append,fourS_size];omega
theorem ext_list2 (s:ByteArray) (a b:Nat):(s.extract a b).data.toList=(s.data.toList.drop a).take (b-a):=by
 rw[ByteArray.data_extract,Array.toList_extract,List.extract_eq_take_drop]
theorem ext_cat (s:ByteArray) (a b c:Nat) (h1:a<=b) (h2:b<=c):(s.extract a b).data.toList++(s.extract b c).data.toList=(s.extract a c).data.toList:=by
 rw[ext_list2,ext_list2,ext_list2]
 have e1:c-a=(b-a)+(c-b):=by omega
 rw[e1,List.take_add,List.drop_drop,show a+(b-a)=b by omega]
theorem cat_blks (s:ByteArray) (k:Nat):∀ n,cat (blks s k n)=(s.extract 0 (min (n*k) s.size)).data.toList
 |0=>by
  rw[ext_list2];simp[blks,cat]
 |n+1=>by
  have h:cat (blks s k n++[s.extract (n*k) (min (n*k+k) s.size)])=cat (blks s k n)++(s.extract (n*k) (min (n*k+k) s.size)).data.toList:=by simp[cat]
  show cat (blks s k n++[_])=_
  rw[h,cat_blks s k n,Nat.add_mul,Nat.one_mul];by_cases hl:n*k<=s.size
  ·rw[show min (n*k) s.size=n*k by omega]
   exact ext_cat s 0 (n*k) (min (n*k+k) s.size) (by omega) (by omega)
  ·rw[show min (n*k) s.size=s.size by omega,show min (n*k+k) s.size=s.size by omega,ext_list2 s (n*k),show s.size-n*k=0 by omega]
   simp
theorem cat_blocks (s:ByteArray) (size:Int) (h:fineB s.size size=true):cat (blocksR s size)=s.data.toList:=by
 have hf:=of_decide_eq_true h;obtain⟨k,rfl⟩:=Int.eq_ofNat_of_zero_le (show 0<=size by omega);unfold blocksR;rw[if_pos h,Int.toNat_natCast,cat_blks]
 have hk:s.size<=cnt s.size k*k:=by
  rcases Nat.lt_or_ge (cnt s.size k*k) s.size with q|q
  ·exact absurd ((Bk.cnt_lt (by omega)).2 q) (by omega)
  ·exact q
 rw[show min (cnt s.size k*k) s.size=s.size by omega,ext_list2];simp;rw[List.take_of_length_le];rw[Array.length_toList];exact nl
end Up
namespace Up
open Pk
open Se (sealV unsealV outV unseal_back)
def GS:Prop:=∀ t b c:ByteArray,Good t b->Good t c->b=c
theorem gS_of {ev:Value} {w:World} (hG:Glob w ev):GS:=fun t b c hb hc=>by
 obtain⟨h1,h2⟩:=good_size hb;obtain⟨e,w',⟨r,v,_,_,_,hr⟩,_⟩:=calls_some (short_any ev t w hG h1 h2);rw[<-(hr b hb).1,(hr c hc).1]
theorem inner_sameH (H:GS) {b c:ByteArray} (hb:b.size<=48) (hc:c.size<=48) (h:innerV b=innerV c):b=c:=by
 rcases inner_case (t:=innerV c) hb h with⟨h1,h2,h3⟩|⟨h1,h2,h3,h4⟩
 ·rcases inner_case (t:=innerV c) hc rfl with⟨k1,k2,k3⟩|⟨k1,k2,k3,k4⟩
  ·exact H _ _ _ h1 k1
  ·omega
 ·rcases inner_case (t:=innerV c) hc rfl with⟨k1,k2,k3⟩|⟨k1,k2,k3,k4⟩
  ·omega
  ·exact h4.symm.trans k4
theorem ansU_packH (H:GS) {b:ByteArray} (h:b.size<=48):ansU (packB b)=outV b 0 0:=by
 have hi:=inner_size h
 have hu:unsealV (packB b)=outV (innerV b) 0 0:=by rw[packB_inner h];exact unseal_back _ (by omega)
 rw[ansU_yes hu];refine(ansT_read (s:=packB b) (t:=innerV b) (r:=b) (packB_inner h).symm (by omega) (packB_size h).2 (fun c hc he=>?_)).1 rfl;exact(inner_sameH H hc h he).symm
end Up
namespace Kp
theorem goR_inv {fit:Rec->Bool} {s:ByteArray}:∀ (f e:Nat) (out:List Rec),(∀ x∈out,fit x=true)->out.Pairwise (fun a b=>a.1≠b.1)->(∀ x∈(goR fit s f out e).1,fit x=true)/\(goR fit s f out e).1.Pairwise (fun a b=>a.1≠b.1):=by
 intro f
 induction f with
 |zero=>intro e out h1 h2;exact⟨h1,h2⟩
 |succ f ih =>
  intro e out h1 h2;by_cases he:e<s.size
  ·rw[goR,if_pos he]
   cases hr:recR s e with
   |none=>exact⟨h1,h2⟩
   |some x =>
    dsimp only;by_cases hc:fit x.1=true/\hasR out x.1.1=false
    ·rw[if_pos hc]
     refine ih _ _ (fun y hy=>?_) ?_
     ·rcases List.mem_append.1 hy with hy|hy
      ·exact h1 y hy
      ·rw[List.mem_singleton.1 hy];exact hc.1
     ·rw[List.pairwise_append]
      refine⟨h2,List.pairwise_singleton _ _,fun a ha b hb=>?_⟩;rw[List.mem_singleton.1 hb];intro hab;have h3:=hc.2;unfold hasR at h3;rw[List.any_eq_false]at h3;exact h3 a ha (by simpa using hab)
    ·rw[if_neg hc]
     exact⟨h1,h2⟩
  ·rw[goR_end (by omega)]
   exact⟨h1,h2⟩
theorem allR_fit (fit:Rec->Bool) (s:ByteArray):∀ x∈(allR fit s).1,fit x=true:=(goR_inv _ _ _ (fun _ h=>absurd h List.not_mem_nil) List.Pairwise.nil).1
theorem allR_once (fit:Rec->Bool) (s:ByteArray):(allR fit s).1.Pairwise (fun a b=>a.1≠b.1):=(goR_inv _ _ _ (fun _ h=>absurd h List.not_mem_nil) List.Pairwise.nil).2
def outI (n:Nat) (rs:List Rec):List ByteArray:=rs.foldl (fun L x=>L.set x.1.toNat x.2.1) (List.replicate n ⟨#[]⟩)
def outS (n:Nat) (rs:List Rec):List ByteArray:=(List.range n).map fun k=>(pieceR rs (k:Nat)).getD ⟨#[]⟩
theorem outI_snoc (n:Nat) (rs:List Rec) (x:Rec):outI n (rs++[x])=(outI n rs).set x.1.toNat x.2.1:=by
 unfold outI;rw[List.foldl_append];rfl
theorem rev_ind {P:List Rec->Prop} (h0:P []) (h1:∀ rs x,P rs->P (rs++[x])) (rs:List Rec):P rs:=by
 rw[<-List.reverse_reverse rs]
 induction rs.reverse with
 |nil=>exact h0
 |cons x l ih =>
  rw[List.reverse_cons];exact h1 _ _ ih
theorem outI_length (n:Nat):∀ rs:List Rec,(outI n rs).length=n :=
 rev_ind List.length_replicate (fun rs x ih=>by rw[outI_snoc,List.length_set,ih])
theorem out_small (n:Nat):∀ rs:List Rec,(∀ x∈rs,x.2.1.size<=8000)->∀ x∈outI n rs,x.size<=8000:=by
 refine rev_ind ?_ ?_
 ·intro _ x hx
  rw[show x=⟨#[]⟩ from List.eq_of_mem_replicate hx];exact Nat.zero_le _
 ·intro rs y ih h x hx
  rw[outI_snoc]at hx
  rcases List.mem_or_eq_of_mem_set hx with hx|hx
  ·exact ih (fun z hz=>h z (List.mem_append_left _ hz)) x hx
  ·rw[hx]
   exact h y (List.mem_append_right _ (List.mem_singleton.2 rfl))
theorem pieceR_snoc (rs:List Rec) (x:Rec) (i:Int):pieceR (rs++[x]) i=(pieceR rs i).or (if x.1=i then some x.2.1 else none):=by
 unfold pieceR;rw[List.find?_append,List.find?_singleton]
 cases h:rs.find? (fun x=>x.1==i) with
 |some y=>rfl
 |none =>
  by_cases hx:x.1=i
  ·simp[hx]
  ·simp[hx]
theorem pieceR_none {rs:List Rec} {i:Int} (h:∀ x∈rs,x.1≠i):pieceR rs i=none:=by
 unfold pieceR;rw[List.find?_eq_none.2 (fun x hx=>by simpa using h x hx)];rfl
theorem outS_at (n:Nat) (rs:List Rec) (k:Nat) (h:k<(outS n rs).length):(outS n rs)[k]=(pieceR rs (k:Nat)).getD ⟨#[]⟩:=by
 simp[outS]
theorem out_same (n:Nat):∀ rs:List Rec,rs.Pairwise (fun a b=>a.1≠b.1)->(∀ x∈rs,0<=x.1/\x.1<n)->outI n rs=outS n rs:=by
 refine rev_ind ?_ ?_
 ·intro _ _
  apply List.ext_getElem
  ·simp[outI,outS]
  ·intro k h1 h2
   simp[outI,outS,pieceR]
 ·intro rs x ih hp hr
  rw[List.pairwise_append]at hp;have hx:=hr x (List.mem_append_right _ (List.mem_singleton.2 rfl));rw[outI_snoc,ih hp.1 (fun y hy=>hr y (List.mem_append_left _ hy))];obtain⟨i,hi⟩:∃ i:Nat,x.1=i:=⟨x.1.toNat,by omega⟩
  apply List.ext_getElem
  ·simp[outS]
  ·intro k h1 h2
   have hkn:k<n:=by simpa [outS] using h2
   rw[List.getElem_set];rw[outS_at,outS_at,pieceR_snoc];by_cases hk:i=k
   ·subst hk
    rw[if_pos (by omega),pieceR_none (fun y hy=>by
     have:=hp.2.2 y hy x (List.mem_singleton.2 rfl)
     rw[hi]at this
     exact this),if_pos hi]
    rfl
   ·rw[if_neg (by omega),if_neg (by rw[hi];omega)]
    simp
end Kp
namespace Kp
open Ls (HH hh_keep lV lowL blkL cells3 countN countN_le count_impl)
open St (Strs IsS made_strs)
def FileC (F:List ByteArray->ByteArray) (z b:Int) (r:ByteArray) (w:World):Prop :=
 ∀ (W:World) (l:List ByteArray) (a:Option Addr) (n cap:Nat),n=l.length->Below w.heap.size w W->n<=64->Strs W W.heap.size a l->(∀ x∈l,x.size<=8000)->Calls prog 33 #[lV z b r,.slice a n cap] W fun e w'=>e=.returned (.string (F l))/\Below W.heap.size W w'
def outT (fit:Rec->Bool) (F:List ByteArray->ByteArray) (z b:Int) (r s:ByteArray) (y:Int):ByteArray:=if keepB fit z b r s y=true then F (outI (countN z b r) (allR fit s).1) else ⟨#[]⟩
theorem take_next (m:List MR) (j:Nat) (h:j<m.length):(recs m).take (j+1)=(recs m).take j++[m[j].1]:=by
 rw[List.take_add_one,List.getElem?_eq_getElem (by rw[recs_length];exact h)];simp[recs]
theorem output_impl (fit:Rec->Bool) (F:List ByteArray->ByteArray) (z b:Int) (r s:ByteArray) (y:Int) (w:World) (hs:s.size<=1048576) (hh:HH w) (hf:FitC fit z b r w) (hF:FileC F z b r w) (hr:∀ x,fit x=true->0<=x.1/\x.1<countN z b r/\x.2.1.size<=8000) :
  Calls prog 13 #[kV z b r s y] w fun e w'=>e=.returned (.string (outT fit F z b r s y))/\Below w.heap.size w w':=by
 obtain⟨i0,hi,hz0,hz1,hz2⟩:=info_parts St.Tryz.infoS9;have C0:=hideK ((Cx.nil w).new (kB z b r s y));have HO:=hideK (fun W (h:Below w.heap.size w W)=>openKeep_any fit z b r s y W hs (hh_keep hh h) (hf.later h));have HR:=hideK (fun g v W h=>right_any g v (allR fit s).2 z b r s y W h)
 change Hid (∀ g v W h,Calls _ _ _ W fun e w'=>e=.returned (.bool (keepB fit z b r s y))/\_) at HR
 have HCN:=hideK (fun W=>count_impl z b r W);have hcl:=countN_le z b r;have HFI:=hideK hF;have HY:Hid (keepB fit z b r s y=true->outT fit F z b r s y=F (outI (countN z b r) (allR fit s).1)):=fun h=>if_pos h;have HN:Hid (keepB fit z b r s y=false->outT fit F z b r s y=⟨#[]⟩):=fun h=>if_neg (by rw[h];exact Bool.false_ne_true);have HAF:=hideK (fun x (h:x∈(allR fit s).1)=>hr x (allR_fit fit s x h));generalize outT fit F z b r s y=A at HY HN ⊢;generalize countN z b r=n at HCN hcl HY HAF;clear hh hf hF hr;unfold OpenOut at HO;unfold lV at HCN;unfold kV at HO ⊢;unfold kB at C0;go_enter func13,ntmps13
 go_wp2_with fail
 generalize w.alloc _=W0 at C0 ⊢;generalize hgk:w.heap.size=gk at C0 ⊢;have HGK:=hideK hgk;clear hgk;refine(HO.o _ C0.o.low).mono ?_;rintro e w1 ⟨⟨v,m,rfl,h1,h2,h3⟩,hb⟩;obtain⟨a0,cap0,hv⟩:=h2.one;subst hv;have C1:=hideK ((C0.o.call hb).new (wkB (.slice a0 m.length cap0) (allR fit s).2 z b r s y));have OW:=hideK (h2.alloc (wkB (.slice a0 m.length cap0) (allR fit s).2 z b r s y));have PS:=hideK h3.slices;rw[<-h1]at HY HAF
 have hml:m.length<=1048576:=by
  have h5:=allR_many fit s;have h6:=allR_le fit s;rw[<-h1,recs_length]at h5;omega
 clear hb h1 h2 h3 HO C0;unfold wkB at C1 OW
 go_wp2_with fail
 generalize w1.alloc _=W1 at C1 OW ⊢;generalize w1.heap.size=gw at C1 ⊢;refine(HR.o gw _ W1 (C1.o.get 0 rfl)).mono ?_;rintro e w2 ⟨rfl,hb⟩;have C2:=hideK (C1.o.call hb);have OW2:=hideK (OW.o.below hb);clear hb C1 OW HR
 cases hk:keepB fit z b r s y with
 |false =>
  have HE:=hideK (HN.o hk);clear hk HY HN
  go_wp2_with fail
  go_ret;exact⟨by rw[HE.o];rfl,C2.o.low⟩
 |true =>
  have HE:=hideK (HY.o hk);clear hk HY HN;obtain⟨k0,k1,k2,k3,k4⟩:=k_cells (C2.o.get 1 rfl)
  go_wp2_with fail
  refine(HCN.o _).mono ?_;rintro e w3 ⟨rfl,hb⟩;have C3:=hideK (C2.o.call hb);have OW3:=hideK (OW2.o.below hb);clear hb C2 OW2 k0 k1 k2 k3 k4
  go_wp2_with (at_make;refine wpList_make_full _ rfl (.tmp 13) (.tmp 13) 31 rfl w3.heap.size 9 i0 (.string ⟨#[]⟩) 1 underlying31 hi hz0 hz1 .i64 .i64 _ _ n rfl rfl (by simp) (by simp) (by rw[hz2];omega) (by unfold maxLen;omega) nl ?_;intro w4 hown4 hgrow4;have I4:=hideK (made_strs hown4);have B4:=hideK ((Below.refl w3.heap.size w3).grown hgrow4 nl (by simp));have C4:=hideK (C3.o.call B4.o);obtain⟨d0,d1,d2,d3,d4,d5,d6⟩:=wk_cells (C4.o.get 0 rfl);clear hown4 hgrow4)
  obtain⟨nm,hnm⟩:∃ nm,nm=m.length:=⟨_,rfl⟩;have HNM:=hideK hnm;rw[<-hnm]at hml ⊢;clear hnm
  go_loopw [19,6] (fun jv _ wr=>∃ (j:Nat),jv=.int .i64 j/\j<=nm/\IsS wr w3.heap.size 9 (outI n ((recs m).take j))/\Below w3.heap.size w3 wr) (fun jv _ _=>nm-(intOf jv).toNat)
  case atStart=>exact⟨0,rfl,Nat.zero_le _,I4.o,B4.o⟩
  case round =>
   obtain⟨j,rfl,hj,his,hbw⟩:=hrel;have I:=hideK his;have BW:=hideK hbw;clear his hbw I4 B4 d0 d1 d2 d3 d4 d5 d6;by_cases hlt:j<nm
   ·have hlt':(j:Int)<(nm:Int):=by omega
    have hjm:j<m.length:=by rw[<-HNM.o];exact hlt
    obtain⟨gr,cp,hv,_,hgl,_,hcl2⟩:=OW3.o.cells (by omega);rw[<-HNM.o]at hv
    cases hv
    obtain⟨e0,e1,e2⟩:=hcl2 j hjm;have c0:=(BW.o.cell (p:=⟨gr,j*3,none⟩) hgl).trans e0;have c1:=(BW.o.cell (p:=⟨gr,j*3+1,none⟩) hgl).trans e1;have c2:=(BW.o.cell (p:=⟨gr,j*3+2,none⟩) hgl).trans e2;have HAX:=HAF.o m[j].1 (List.mem_map.2 ⟨m[j],List.getElem_mem hjm,rfl⟩);have HNX:Hid (outI n ((recs m).take (j+1))=(outI n ((recs m).take j)).set m[j].1.1.toNat m[j].1.2.1):=(by unfold Hid;rw[take_next m j hjm,outI_snoc]);obtain⟨ap,np,cpp,hxv⟩:=PS.o m[j] (List.getElem_mem hjm);rw[hxv]at c2;obtain⟨xi,hxi⟩:∃ xi:Nat,m[j].1.1=xi:=⟨m[j].1.1.toNat,by omega⟩;rw[hxi]at c0 HAX HNX;have hxn:xi<n:=(by omega);generalize m[j].1.2.1=xt at c1 HNX;clear e0 e1 e2 hcl2 hxv hxi HAX;have HLN:Hid ((outI n ((recs m).take j)).length=n):=outI_length n _;have I1:=hideK (I.o.below ((Below.refl _ wr).alloc nl (.cells #[.int .i64 xi,.string xt,.slice ap np cpp] 58)) I.o.lt);have B1:=hideK (BW.o.alloc BW.o.size (.cells #[.int .i64 xi,.string xt,.slice ap np cpp] 58));have X1:Hid ((wr.alloc (.cells #[.int .i64 xi,.string xt,.slice ap np cpp] 58)).heap[wr.heap.size]? = some (.cells #[.int .i64 xi,.string xt,.slice ap np cpp] 58 (0,0))):=heap_alloc_new wr _
    go_upto_region 8 with fail
    generalize wr.alloc _=W5 at I1 B1 X1 ⊢;generalize wr.heap.size=g5 at X1 ⊢;clear c0 c1 c2 I BW;obtain⟨x0,x1,x2⟩:=cells3 X1.o;have ce:∃ v,W5.cell? ⟨w3.heap.size,xi,none⟩=some (.string v):=⟨_,I1.o.cell (j:=xi) (by rw[HLN.o];exact hxn)⟩;obtain⟨v0,ce⟩:=ce;have cf:=I1.o.frozen xi;have hxn':(xi:Int)<(n:Int):=(by omega);(go_wp2_with fail)
    go_roundw
    case rel=>exact⟨j+1,by go_num,by omega,by rw[HNX.o];exact I1.o.set xi xt,B1.o.setCell nl _⟩
    case measure=>simp[intOf];omega
   ·obtain rfl:j=nm:=by omega
    have hltD:decide ((j:Int)<(j:Int))=false:=by simp
    have HT:Hid ((recs m).take j=recs m):=by
     unfold Hid;rw[HNM.o,<-recs_length m];exact List.take_length
    rw[HT.o]at I;have C9:=hideK (C3.o.call BW.o);obtain⟨k0,k1,k2,k3,k4⟩:=k_cells (C9.o.get 1 rfl);have HSZ:Hid (∀ x∈outI n (recs m),x.size<=8000):=out_small n (recs m) (fun x hx=>(HAF.o x hx).2.2);have HFL:=hideK (HFI.o wr (outI n (recs m)) (some ⟨w3.heap.size,0,none⟩) n n (outI_length n _).symm C9.o.low hcl (I.o.strs I.o.lt) HSZ.o);unfold lV at HFL;(go_wp2_with fail);refine HFL.o.mono ?_;rintro e w9 ⟨rfl,hb⟩;have C10:=hideK (C9.o.call hb);clear hb;(go_wp2_with fail);go_ret;exact⟨by rw[HE.o];rfl,C10.o.low⟩
end Kp
namespace Kp
open Bi (is_yes is_no)
open Ls (rightB right_spec lV lowL blkL cells3 set3_all)
end Kp
namespace Kp
open Bk (cnt count_any)
open Ls (rightB rightB_yes lV lowL blkL cells3 countN countN_yes)
open St (Strs OwnS one_newS one_cellS)
open Ap (Own0 KeepE wpList_append_own0k)
def outK (rs:List Rec) (k:Nat):List ByteArray:=(List.range k).map fun j=>(pieceR rs (j:Nat)).getD ⟨#[]⟩
end Kp
namespace Up
open Se (outV unsealV)
theorem unpack_all (a:Addr) (s:ByteArray) (w:World) (hs:s.size<=1048576) (hg:Glob w (.iface 264 (.pointer (some a)))) :
  Calls prog 58 #[.string s] w fun e w'=>e=.returned (ansU s)/\Below w.heap.size w w' :=
 unpack_impl _ _ (fun t W h1 h2 h3=>short_any _ t W h1 h2 h3) (fun W=>is_self a W) s w hs hg
end Up
namespace fnExactBlockUnpack
open Up
end fnExactBlockUnpack
namespace Ls
open Up (ansU Glob glob_keep unpack_all)
open Se (outV)
open Pk (cat join_any)
open St (Strs OwnS one_newS one_cellS app_one)
theorem mixedG:prog.follows .mixedOrders=true:=by kernel_rfl
theorem must_impl (z b:Int) (r:ByteArray) (i:Nat) (w:World) (hz0:0<=z) (hz:z<=1000) (hb0:1<=b) (hb:b<=48) (hi:i<=64) :
  Calls prog 59 #[lV z b r,.int .i64 i] w fun e w'=>e=.returned (.int .i64 (mustN z b i))/\Below w.heap.size w w':=by
 have hm0:(0:Int)<=i*b:=Int.mul_nonneg (by omega) (by omega);have hm1:(i:Int)*b<=64*48:=Int.mul_le_mul (by omega) hb (by omega) (by omega);have HM:Hid (mustN z b i=min b (z-i*b)):=rfl;rw[HM.o];clear HM
 have hw1:IntKind.i64.wrap ((i:Int)*b)=(i:Int)*b:=by rw[IntKind.wrap_i64];omega
 have hw2:IntKind.i64.wrap (z-(i:Int)*b)=z-(i:Int)*b:=by rw[IntKind.wrap_i64];omega
 unfold lV;go_enter func59,ntmps59
 go_wp2_with fail
 go_ret;exact⟨rfl,(Below.refl _ _).alloc nl _⟩
theorem joinAll_own {W:World} {base:Nat} {v:Value} {D:List ByteArray} (h:OwnS W base v D) (hl:D.length<=1048576) (hc:(cat D).length<=1048576) :
  Calls prog 28 #[v] W fun e w'=>e=.returned (.string ⟨(cat D).toArray⟩)/\Below W.heap.size W w':=by
 obtain⟨a,cap,rfl,_,hs⟩:=h.strs;exact join_any D a cap D.length W hs rfl hl hc
theorem file_impl (z b:Int) (r:ByteArray) (l:List ByteArray) (a:Option Addr) (cap m:Nat) (ga:Addr) (w:World) (hm:m=l.length) (hp:m<=1048576) (hs:Strs w w.heap.size a l) (hsz:∀ x∈l,x.size<=1048576) (hG:Glob w (.iface 264 (.pointer (some ga)))) :
  Calls prog 33 #[lV z b r,.slice a m cap] w fun e w'=>e=.returned (.string (fileV z b r l))/\Below w.heap.size w w':=by
 obtain⟨i0,hif,hz0,hz1,hz2⟩:=info_parts St.Tryz.infoS9;have HA:Hid (Below w.heap.size w (w.alloc (.cells #[.int .i64 z,.int .i64 b,.string r] 26))):=(Below.refl _ _).alloc nl _;have HX:Hid ((w.alloc (.cells #[.int .i64 z,.int .i64 b,.string r] 26)).heap[w.heap.size]? = some (.cells #[.int .i64 z,.int .i64 b,.string r] 26 (0,0))):=heap_alloc_new w _;by_cases h4:400<m
 ·have h4i:(400:Int)<(m:Int):=by omega
  have HQ:Hid (fileV z b r l=⟨#[]⟩):=by unfold Hid fileV;rw[if_pos (by omega)]
  rw[HQ.o];unfold lV;clear HQ hs hsz hG hm;go_enter func33,ntmps33
  go_wp2_with fail
  go_ret;exact⟨rfl,HA.o⟩
 ·have h4i:¬(400:Int)<(m:Int):=by omega
  have h4d:decide ((400:Int)<(m:Int))=false:=by simp;omega
  have HQ:Hid (fileV z b r l=⟨(cat (fileL z b 0 (l.take (countN z b r)))).toArray⟩):=by unfold Hid fileV;rw[if_neg (by omega)]
  rw[HQ.o];clear HQ;have HC:=hideL (fun W=>count_impl z b r W);have HCL:=countN_le z b r
  have HCY:Hid (0<countN z b r->0<=z/\z<=1000/\1<=b/\b<=48):=fun h=>by
   cases hr:rightB z b r with
   |false=>rw[countN_no hr]at h;omega
   |true=>have:=rightB_yes hr;omega
  have HB48:Hid (∀ D:List ByteArray,(0<D.length->b<=48)->(∀ x∈D,(x.size:Int)<=b)->D.length<=64->(cat D).length<=1048576):=fun D h1 h2 h3=>by
   by_cases h0:0<D.length
   ·have hb48:=h1 h0
    have:=cat_le 48 D fun x hx=>by have:=h2 x hx;omega
    omega
   ·have:D=[]:=List.eq_nil_of_length_eq_zero (by omega)
    subst this;decide
  have HM:=hideL (fun (i:Nat) (hi:i<=64) (W:World) (h:0<=z/\z<=1000/\1<=b/\b<=48)=>must_impl z b r i W h.1 h.2.1 h.2.2.1 h.2.2.2 hi);generalize countN z b r=c at HC HCL HCY ⊢;obtain⟨q,hq⟩:∃ q,q=l.take c:=⟨_,rfl⟩
  have hql:q.length=min c m:=by rw[hq,List.length_take,hm]
  have HQS:Hid (∀ x∈q,x.size<=1048576):=fun x hx=>hsz x (by rw[hq]at hx;exact List.mem_of_mem_take hx)
  have HQG:Hid (∀ (k:Nat) (h:k<q.length) (W:World),Below w.heap.size w W->∃ bb off,a=some ⟨bb,off,none⟩/\W.cell? ⟨bb,off+k,none⟩=some (.string q[k])):=fun k h W hW=>by
   have hkl:k<l.length:=by omega
   obtain⟨bb,off,ha,_,hc⟩:=(hs.below hW).some (by omega);refine⟨bb,off,ha,?_⟩;rw[hc k hkl]
   congr 2
   subst hq;rw[List.getElem_take]
  rw[<-hq];have HG:=hideL hG;have HV:=hideL (fun (x:ByteArray) (W:World) (hx:x.size<=1048576) (hW:Glob W (.iface 264 (.pointer (some ga))))=>unpack_all ga x W hx hW);obtain⟨n,hn⟩:∃ n,n=q.length:=⟨_,rfl⟩;have HN:=hideL hn
  have hnc:n<=c:=by omega
  have hnm:n<=m:=by omega
  have hmin:min (c:Int) (m:Int)=(n:Int):=by omega
  have hcase:(n:Int)=c/\(c:Int)<=m∨(n:Int)=m/\(m:Int)<c:=by omega
  clear hs hsz hG hm hq hn hql;have hmx:=mixedG;unfold lV at HC HM ⊢;go_enter func33,ntmps33
  go_wp2_with fail
  generalize hww:w.alloc (.cells #[.int .i64 z,.int .i64 b,.string r] 26)=wa at HA HX ⊢;clear hww;generalize hgx:w.heap.size=gx at HX ⊢;refine(HC.o _).mono ?_;rintro e w1 ⟨rfl,hb⟩;have X1:=hideL (blkL HX.o hb);have B1:=hideL (lowL HA.o hb);clear hb HX HA HC;have G1:=hideL (glob_keep HG.o B1.o);have LW:=hideL (show gx<w1.heap.size from (Array.getElem?_eq_some_iff.1 X1.o).1);clear HG
  go_wp2_with fail
  go_loopw [16,5] (fun iv bv wr=>∃ (k:Nat) (D:List ByteArray),iv=.int .i64 k/\k<=n/\OwnS wr w1.heap.size bv D/\FileF z b q k D/\Below w1.heap.size w1 wr) (fun iv _ _=>n-(intOf iv).toNat)
  case atStart=>exact⟨0,[],rfl,Nat.zero_le _,OwnS.nil _ _,file_none z b q,Below.refl _ _⟩
  case round =>
   obtain⟨k,D,rfl,hk,ho,hF,hbw⟩:=hrel;have O:=hideL ho;have F:=hideL hF;have BW:=hideL hbw;have GW:=hideL (glob_keep G1.o hbw);have XW:=hideL (blkL X1.o hbw);have BB:=hideL (lowL B1.o hbw);have hDL:=hF.1;clear ho hF hbw;by_cases hlt:k<n
   ·have hlt':(k:Int)<(n:Int):=by omega
    have hkq:k<q.length:=by rw[<-HN.o];exact hlt
    have hkm:(k:Int)<(m:Int):=by omega
    obtain⟨bb,off,rfl,ci⟩:=HQG.o k hkq wr BB.o;have hx:=HQS.o q[k] (List.getElem_mem hkq);have HNXT:=hideL (fun (t:ByteArray) (h1:blkT q[k]=some t) (h2:(t.size:Int)=mustN z b k)=>file_next F.o hkq h1 h2);have HSTP:=hideL (fun h=>file_stop F.o hkq h);generalize q[k]=x at ci hx HNXT HSTP;obtain⟨t,c0,hu⟩:=ansU_out x;have HY:=hideL (fun (h:c0=0)=>blkT_yes (t:=t) (by rw[hu,h]));have HZ:=hideL (fun (h:¬c0=0)=>blkT_no hu h);have HVX:=hideL (fun (W:World) (hW:Glob W (.iface 264 (.pointer (some ga))))=>HV.o x W hx hW);rw[hu]at HVX;unfold outV at HVX;clear hu;(go_wp2_with fail);refine(HVX.o _ GW.o).mono ?_;rintro e w3 ⟨rfl,hb⟩;have O3:=hideL (O.o.below hb);have X3:=hideL (blkL XW.o hb);have B3:=hideL (lowL BW.o hb);clear hb ci O XW BW GW BB;have O4:Hid (OwnS (w3.alloc (.cells #[.string t,.int .i64 0,.int .i64 c0] 91)) w1.heap.size u5 D):=World.ownsRow.alloc O3.o _;have X4:Hid ((w3.alloc (.cells #[.string t,.int .i64 0,.int .i64 c0] 91)).heap[gx]? = some (.cells #[.int .i64 z,.int .i64 b,.string r] 26 (0,0))):=blk_alloc X3.o _;have Y4:Hid ((w3.alloc (.cells #[.string t,.int .i64 0,.int .i64 c0] 91)).heap[w3.heap.size]? = some (.cells #[.string t,.int .i64 0,.int .i64 c0] 91 (0,0))):=heap_alloc_new w3 _;have B4:Hid (Below w1.heap.size w1 (w3.alloc (.cells #[.string t,.int .i64 0,.int .i64 c0] 91))):=lowB_alloc rfl B3.o _
    go_upto_region 8 with fail
    generalize hww:w3.alloc (.cells #[.string t,.int .i64 0,.int .i64 c0] 91)=u4 at O4 X4 Y4 B4 ⊢;generalize w3.heap.size=gt at Y4 ⊢;clear hww O3 X3 B3;obtain⟨x0,x1,x2⟩:=cells3 X4.o;obtain⟨y0,y1,y2⟩:=cells3 Y4.o;by_cases hc0:c0=0
    ·have HSOME:=hideL (HY.o hc0)
     have hcpos:0<=z/\z<=1000/\1<=b/\b<=48:=HCY.o (by omega);have HMU:=hideL (fun (W:World)=>HM.o k (by omega) W hcpos);have HMN:Hid (mustN z b k=mustN z b k):=rfl;subst hc0;clear HZ HY;generalize mustN z b k=mm at HMU HNXT HSTP HMN;have gx0:=fun d os=>cell_regrown x0 d os;have gx1:=fun d os=>cell_regrown x1 d os;have gx2:=fun d os=>cell_regrown x2 d os;have gy0:=fun d os=>cell_regrown y0 d os;have gy2:=fun d os=>cell_regrown y2 d os;by_cases hmm:(t.size:Int)=mm
     ·have FN:=hideL (HNXT.o t HSOME.o hmm)
      have hmb:((t.size:Int) != mm)=false:=by simp;exact hmm
      have hme:((t.size:Int)==mm)=true:=by simp;exact hmm
      clear hmm HNXT HSTP;refine wp_region_quiet_below (by assumption) (by kernel_rfl) ?_
      repeat (quiet_step (first|(go_at_call 59;exact Calls.regrown_of (HMU.o _))))
      refine wpQuiet_nil ?_;intro _ hw';obtain⟨⟨dq,osq⟩,hw''⟩:=hw';subst hw'';have KQ:=hideL (below_regrown u4 dq osq);generalize Go.Sort.grow (redrawn u4 dq) osq=w8 at KQ ⊢;clear gx0 gx1 gx2 gy0 gy2 x0 x1 x2 y0 y1 y2;have O8:=hideL (O4.o.below KQ.o);have B8:=hideL (lowL B4.o KQ.o);have hz8:=B8.o.size;obtain⟨y0,y1,y2⟩:=cells3 (blkL Y4.o KQ.o)
      go_wp2_with (at_builtin;refine wpList_append_own _ rfl (.tmp 36) (.tmp 39) 31 rfl w1.heap.size 9 i0 (.string ⟨#[]⟩) 1 16 underlying31 hif hz0 hz1 hz2 rfl (by decide) _ _ _ rfl (World.ownsRow.alloc O8.o _) ⟨w8.heap.size,0,none⟩ 1 1 [.string t] rfl rfl (one_newS w8 _ _) (one_cellS _) (by rw[hDL];unfold maxLen;omega) (by rw[hDL];omega) (by simp;omega) ?_)
      intro v9 w9 hown hgrow _;have O9:Hid (OwnS w9 w1.heap.size v9 (D++[t])):=OwnS.snoc (by rw[hDL];exact hown);have B9:=hideL (app_one B8.o hz8 nl O8.o hgrow);clear hown hgrow O8 O4;(go_wp2_with fail)
      go_roundw
      case rel=>exact⟨k+1,_,by go_num,by omega,O9.o,FN.o,B9.o⟩
      case measure=>simp[intOf];omega
     ·have HEND:=hideL (HSTP.o (.inr ⟨t,HSOME.o,hmm⟩))
      have hmb:((t.size:Int) != mm)=true:=by simp;exact hmm
      have hme:((t.size:Int)==mm)=false:=by simp;exact hmm
      clear hmm HNXT HSTP;refine wp_region_quiet_below (by assumption) (by kernel_rfl) ?_
      repeat (quiet_step (first|(go_at_call 59;exact Calls.regrown_of (HMU.o _))))
      refine wpQuiet_nil ?_;intro _ hw';obtain⟨⟨dq,osq⟩,hw''⟩:=hw';subst hw'';have KQ:=hideL (below_regrown u4 dq osq);generalize Go.Sort.grow (redrawn u4 dq) osq=w8 at KQ ⊢;clear gx0 gx1 gx2 gy0 gy2 x0 x1 x2 y0 y1 y2;have O8:=hideL (O4.o.below KQ.o);have B8:=hideL (lowL B1.o (lowL B4.o KQ.o));(go_wp2_with fail);refine(joinAll_own O8.o (by omega) (HB48.o D (fun _=>hcpos.2.2.2) F.o.2.1 (by omega))).mono ?_;rintro e w9 ⟨rfl,hb⟩;have B9:=hideL (lowL B8.o hb);clear hb;(go_wp2_with fail);go_ret;exact⟨by rw[HEND.o];rfl,B9.o⟩
    ·have HEND:=hideL (HSTP.o (.inl (HZ.o hc0)))
     have hcpos:0<=z/\z<=1000/\1<=b/\b<=48:=HCY.o (by omega);have hcb:(c0 != 0)=true:=(by simp;exact hc0);have hce:(c0==0)=false:=(by simp;exact hc0);clear HZ HY HNXT HSTP
     go_quiet (fail)
     have O8:=fun (i:Nat)=>O4.o.below (below_drewN (Below.refl u4.heap.size u4) i);have B8:=fun (i:Nat)=>lowL B1.o (lowL B4.o (below_drewN (Below.refl u4.heap.size u4) i));(go_wp2_with fail);refine(joinAll_own (O8 _) (by omega) (HB48.o D (fun _=>hcpos.2.2.2) F.o.2.1 (by omega))).mono ?_;rintro e w9 ⟨rfl,hb⟩;have B9:=hideL (lowL (B8 _) hb);clear hb;(go_wp2_with fail);go_ret;exact⟨by rw[HEND.o];rfl,B9.o⟩
   ·have HEND:=hideL (file_end F.o (by rw[<-HN.o];omega))
    have hlt':¬(k:Int)<(n:Int):=by omega
    have B8:=hideL (lowL B1.o BW.o);(go_wp2_with fail);refine(joinAll_own O.o (by omega) (HB48.o D (fun h=>(HCY.o (by omega)).2.2.2) F.o.2.1 (by omega))).mono ?_;rintro e w9 ⟨rfl,hb⟩;have B9:=hideL (lowL B8.o hb);clear hb;(go_wp2_with fail);go_ret;exact⟨by rw[HEND.o];rfl,B9.o⟩
end Ls
namespace Ls
open Up (ansU)
open Se (outV)
open Pk (cat)
open St (Strs)
open Bk (cnt count_any)
end Ls
namespace Dr
theorem at_none (a:Option Addr) (cap:Nat) (i most:Int) (w:World) :
  Calls prog 10 #[.slice a 0 cap,.int .i64 i,.int .i64 most] w fun e w'=>e=.returned (.int .i64 0)/\w'=w:=by
 by_cases h:most<=1
 ·go_enter func10,ntmps10
  go_wp2
  go_ret;exact⟨rfl,rfl⟩
 ·go_enter func10,ntmps10
  go_wp2
  go_ret;exact⟨rfl,rfl⟩
/-- lwAt: some number below most (0,if most is 1 or less) -/
theorem at_any (B:Nat) (a:Option Addr) (len cap i:Nat) (most:Int) (w:World) (hl:len<=1048576) (hi:i<=1000) (hm:most<=9223372036854775807) (hr:Row w B a len) :
  Calls prog 10 #[.slice a len cap,.int .i64 i,.int .i64 most] w fun e w'=>∃ r:Int,e=.returned (.int .i64 r)/\0<=r/\(r<most∨r=0)/\w'=w:=by
 rcases hr with h0|⟨b,off,rfl,hlt,hc⟩
 ·subst h0
  exact(at_none a cap i most w).mono fun e w' ⟨e1,e2⟩=>⟨0,e1,Int.le_refl _,.inr rfl,e2⟩
 ·by_cases h0:len=0
  ·subst h0
   exact(at_none _ cap i most w).mono fun e w' ⟨e1,e2⟩=>⟨0,e1,Int.le_refl _,.inr rfl,e2⟩
  ·by_cases h:most<=1
   ·clear hc
    go_enter func10,ntmps10
    go_wp2
    go_ret;exact⟨0,rfl,Int.le_refl _,.inr rfl,rfl⟩
   ·obtain⟨z,hz,z1,z2⟩:=hc (i%len) (Nat.mod_lt _ (by omega))
    have hlb:((len:Int)==0)=false:=beq_eq_false_iff_ne.2 (by omega);have g1:(0:Int)<=(i:Int)%(len:Int):=Int.emod_nonneg _ (by omega);have g2:(i:Int)%(len:Int)<(len:Int):=Int.emod_lt_of_pos _ (by omega);have g3:((i:Int)%(len:Int)).toNat=i%len:=(by rw[<-Int.natCast_emod,Int.toNat_natCast]);have HM:=hideD h;clear hc;go_enter func10,ntmps10
    go_wp2
    go_ret;exact⟨_,rfl,Int.emod_nonneg _ (by omega),.inl (Int.emod_lt_of_pos _ (by omega)),rfl⟩
end Dr
end Go.Proofs.YtbdcffjcogglbaaGreatDoor
