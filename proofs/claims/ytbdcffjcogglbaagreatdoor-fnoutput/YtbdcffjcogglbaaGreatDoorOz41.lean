import Derived.Test.YtbdcffjcogglbaaGreatDoorRows
import Derived.Test.YtbdcffjcogglbaaGreatDoorOz35
import Derived.OpenShut
import Derived.MakeChecks
import Derived.LaidLaws
import Derived.LaidHandle
import Derived.Test.YtbdcffjcogglbaaGreatDoorOz40
set_option maxRecDepth 100000
set_option maxHeartbeats 8000000
namespace Go.Proofs.YtbdcffjcogglbaaGreatDoor
open Go.RowKit
open Go.Proofs.Tryz
namespace Up
theorem gNoBlock:prog.globalNamed "loop.example/g00550/impl.errNoBlock"=some 0:=by kernel_rfl
theorem tNoBlock:(prog.globals[0]?).map (·.type)=some 85:=by kernel_rfl
theorem cellsErrS:prog.cellsOf 284=1:=by kernel_rfl
theorem cellsStr:prog.cellsOf 9=1:=by kernel_rfl
theorem starErr: "*"++ "errors.errorString"= "*errors.errorString":=by decide
theorem rowErr (u:TypeId) (h:prog.typeName? 3 u=some "*errors.errorString"):u=264 :=
 typeName_ptr_named (nm:= "errors.errorString") (by rw[starErr];kernel_rfl) (by kernel_rfl) (by decide) u (by rw[starErr];exact h)
theorem trodVars_length {H:Type} {enc:TypeId × Value->H} {P:Program} {w:World} {sp:Nat->Bool}:∀ {ns:List String} {gs:List (DataW H)} {ps:List MemPlace},DataW.TrodVars enc P w sp ns gs ps->gs.length=ns.length
 |[],[],_,_=>rfl
 |[],_ :: _,_,h=>h.elim
 |_ :: _,[],_,h=>h.elim
 |n :: ns,d :: ds,ps,h=>by
  obtain⟨g,t,cs,fuel,p,q,h1,h2,h3,h4,hs,e⟩:=h
  show ds.length+1=ns.length+1
  rw[trodVars_length hs]
theorem list3 {α:Type} {l:List α} (h:l.length=3):∃ a b c,l=[a,b,c]:=by
 match l,h with
 |[a,b,c],_=>exact⟨a,b,c,rfl⟩
theorem glob_of_met {W:World} (h:laidMet prog [("loop.example/g00550/impl.errNoBlock",Rows.laid_loop_example_g00550_impl_errNoBlock)] W):∃ a:Addr,Glob W (.iface 264 (.pointer (some a))):=by
 obtain⟨ps,⟨g0,t0,cs0,f0,p0,q0,hg0,ht0,hv0,hd0,hq0,e0⟩,hnd,hrows⟩:=h;obtain rfl:=Option.some.inj (gNoBlock.symm.trans hg0);obtain rfl:=Option.some.inj (tNoBlock.symm.trans ht0);have hq':q0=[]:=hq0;subst hq';subst e0;obtain⟨l0⟩:=cs0
 have ok0:∀ u v,l0=[.iface u v]->Value.okWide prog W .any 0 u v:=fun u v e=>by
  subst e;exact(hrows 0 0 (by simp[MemPlace.row])).2 u v (by simpa using World.var?_cell hg0 hv0 0)
 obtain⟨a0,s0,rfl,hc0,hs0,hz0,rfl⟩:=errorString_of_trod underlying85 rowErr underlying264 underlying284 rfl rfl underlying9 cellsErrS cellsStr hd0 ok0
 have hc:W.cell? ⟨0,0,none⟩=some (.iface 264 (.pointer (some a0))):=by simpa using World.var?_cell gNoBlock hv0 0
 refine⟨a0,?_,hc⟩
 rcases Nat.lt_or_ge 0 W.heap.size with h|h
 ·exact h
 ·simp[World.cell?,Array.getElem?_eq_none h]at hc
end Up
namespace Pk
open St (OwnS IsS Strs made_strs srow)
open Bk (blocksR blocksR_length blocks_impl blks blks_length cnt)
noncomputable def piecesR (s:ByteArray) (size:Int):List ByteArray:=(blocksR s size).map packB
theorem piecesR_length (s:ByteArray) (size:Int):(piecesR s size).length<=64:=by
 unfold piecesR;rw[List.length_map];exact blocksR_length s size
noncomputable def midP (l:List ByteArray) (k:Nat):List ByteArray:=(l.take k).map packB++List.replicate (l.length-k) ⟨#[]⟩
theorem midP_length (l:List ByteArray) (k:Nat) (h:k<=l.length):(midP l k).length=l.length:=by
 unfold midP;rw[List.length_append,List.length_map,List.length_take,List.length_replicate];omega
theorem midP_next (l:List ByteArray) (k:Nat) (h:k<l.length):(midP l k).set k (packB l[k])=midP l (k+1):=by
 have hl:((l.take k).map packB).length=k:=by rw[List.length_map,List.length_take];omega
 unfold midP;rw[List.set_append,if_neg (by omega),hl,Nat.sub_self,show l.length-k=(l.length-(k+1))+1 by omega,List.replicate_succ,List.set_cons_zero,List.take_add_one,List.getElem?_eq_getElem h,List.map_append,List.append_assoc];rfl
theorem midP_zero (l:List ByteArray):midP l 0=List.replicate l.length ⟨#[]⟩:=by
 unfold midP;simp
theorem midP_all (l:List ByteArray):midP l l.length=l.map packB:=by
 unfold midP;rw[List.take_length,Nat.sub_self,List.replicate_zero,List.append_nil]
theorem owns_of {W:World} {g base n:Nat} {l:List ByteArray} (h:IsS W g 9 l) (hg:base<=g) (hn:l.length=n) (hm:n<=1048576):OwnS W base (.slice (some ⟨g,0,none⟩) n n) l:=by
 subst hn;refine⟨by simp,.inr ⟨g,l.length,srow l,rfl,hg,h,nl,by unfold maxLen;omega,by simp[srow],?_⟩⟩;unfold srow;rw[List.take_of_length_le (by simp)]
theorem strs_some {w:World} {B:Nat} {a:Option Addr} {l:List ByteArray} (h:Strs w B a l) (h0:0<l.length):∃ b off,a=some ⟨b,off,none⟩/\b<B/\∀ j (h:j<l.length),w.cell? ⟨b,off+j,none⟩=some (.string l[j]):=by
 rcases h with h|h
 ·subst h
  simp at h0
 ·exact h
theorem blks_size (s:ByteArray) (k:Nat):∀ n,∀ x∈blks s k n,x.size<=k
 |0,x,h=>absurd h (List.not_mem_nil)
 |n+1,x,h=>by
  rw[blks]at h
  rcases List.mem_append.1 h with h|h
  ·exact blks_size s k n x h
  ·rw[List.mem_singleton.1 h,ByteArray.size_extract]
   omega
theorem blocks_size (s:ByteArray) (size:Int):∀ x∈blocksR s size,x.size<=48:=by
 intro x hx;unfold blocksR at hx
 split at hx
 ·rename_i h
  have h:=of_decide_eq_true h
  have:=blks_size s size.toNat _ x hx
  omega
 ·exact absurd hx (List.not_mem_nil)
theorem pieces_impl (s:ByteArray) (size:Int) (w:World) (hs:s.size<=1048576) :
  Calls prog 17 #[.string s,.int .i64 size] w fun e w'=>∃ v,e=.returned v/\OwnS w' w.heap.size v (piecesR s size)/\Below w.heap.size w w':=by
 obtain⟨i0,hi0,hz0,hz1,hz2⟩:=info_parts St.Tryz.infoS9;have HB:=hideP (blocks_impl s size w hs);have HL:=blocksR_length s size;have HSZ:=hideP (blocks_size s size);have HR:Hid (piecesR s size=(blocksR s size).map packB):=rfl;rw[HR.o];clear HR;generalize blocksR s size=l at HB HL HSZ ⊢;go_enter func17,ntmps17
 go_wp2_with fail
 refine HB.o.mono ?_;rintro e w1 ⟨v1,rfl,ho1,hb1⟩;obtain⟨a,cap,hv,_,hi1⟩:=ho1.strs;obtain⟨n,hn⟩:∃ n,n=l.length:=⟨_,rfl⟩;rw[<-hn]at hv HL;subst hv;have HN:=hideP hn;have S1:=hideP hi1;have B1:=hideP hb1;have hz1':=hb1.size;clear hn hi1 hb1 ho1
 go_wp2_with (at_make;refine wpList_make_full _ rfl (.tmp 13) (.tmp 13) 31 rfl w1.heap.size 9 i0 (.string ⟨#[]⟩) 1 underlying31 hi0 hz0 hz1 .i64 .i64 _ _ n rfl rfl (by simp) (by simp) (by rw[hz2];omega) (by unfold maxLen;omega) nl ?_;intro w2 hown hgrow;have HI2:=hideP (made_strs hown);have HB2:=hideP ((Below.refl w1.heap.size w1).grown hgrow nl (by simp));clear hown hgrow)
 go_loopw [17,7,8] (fun iv _ _ wr=>∃ k:Nat,iv=.int .i64 k/\k<=n/\IsS wr w1.heap.size 9 (midP l k)/\Below w1.heap.size w1 wr) (fun iv _ _ _=>n-(intOf iv).toNat)
 case atStart=>exact⟨0,rfl,Nat.zero_le _,by rw[midP_zero,<-HN.o];exact HI2.o,HB2.o⟩
 case round =>
  obtain⟨k,rfl,hk,hsr,hbw⟩:=hrel;have SR:=hideP hsr;have BW:=hideP hbw;have hzr:=hbw.size;clear hsr hbw;by_cases hlt:k<n
  ·have hkl:k<l.length:=by rw[<-HN.o];exact hlt
   obtain⟨b,off,rfl,hb,hcl⟩:=strs_some (S1.o.below BW.o) (by omega);have ci:=hcl k hkl;have HNX:=hideP (midP_next l k hkl);have hx:=HSZ.o l[k] (List.getElem_mem hkl)
   have hpl:k<(midP l k).length:=by rw[midP_length l k (by omega)];exact hkl
   have HOLD:=hideP (fun (W:World) (hW:IsS W w1.heap.size 9 (midP l k))=>hW.cell hpl);generalize l[k]=x at ci HNX hx;generalize (midP l k)[k]=old at HOLD
   have hkn:(k:Int)<n:=by omega
   have HP:=hideP (fun W=>pack_impl x W (by omega));generalize packB x=px at HP HNX;clear hcl hkl hpl
   go_wp2_with fail
   refine(HP.o _).mono ?_;rintro e w3 ⟨rfl,hb3⟩;have S3:=hideP (SR.o.below hb3 SR.o.lt);have B3:=hideP (BW.o.trans (hb3.mono hzr));have c3:=HOLD.o w3 S3.o;have f3:=S3.o.frozen k;clear hb3
   go_wp2_with fail
   go_roundw
   case rel=>exact⟨k+1,by go_num,by omega,by rw[<-HNX.o];exact S3.o.set k _,B3.o.setCell (by simp) _⟩
   case measure=>simp[intOf];omega
  ·obtain rfl:k=n:=by omega
   have HE:Hid (IsS wr w1.heap.size 9 (l.map packB)):=by
    have:=SR.o
    rw[HN.o,midP_all]at this;exact this
   go_wp2_with fail
   go_ret;exact⟨_,rfl,owns_of HE.o hz1' (by rw[List.length_map];exact HN.o.symm) (by omega),B1.o.trans (BW.o.mono hz1')⟩
end Pk
namespace Up
open Pk
open Gn (rd)
open Hf (up up_length up_set)
open Bi (above openR getR)
open Go.Proofs.YtbdcffjcogglbaaGreatDoor.So (bwtA unR unR_case tOut)
open Fr (fbackR)
open Ze (backR backR_len)
open In (Ints IsI made_ints)
open Dr (Aft)
def Rd (t:ByteArray) (k:Nat) (at_:Int) (bad:Bool):Prop:=(0<=at_/\at_<=t.size)/\∀ b,Good t b->bad=false/\at_=(posK b k:Int)
theorem rd_end (t:ByteArray) (a:Int):(rd t a).2.1<=t.size:=by
 unfold rd
 split
 ·exact Nat.zero_le _
 ·split
  ·exact Nat.zero_le _
  ·exact Gn.run_place t _ _ _ _
theorem zeros_up:up (tabL [] (Hf.zeros 257) [])=List.replicate 257 0:=by
 show up (Hf.zeros 257)=_
 unfold up Hf.zeros;rw[List.map_replicate];rfl
theorem syL_len (b:ByteArray):(syL (lenS b) 257).length=above (up (lenS b)):=by
 rw[above_eq,(lenS_facts b).1]
end Up
namespace Up
open Pk
open Hf (up up_length up_set)
open Bi (above openR getR)
open Go.Proofs.YtbdcffjcogglbaaGreatDoor.So (bwtA unR unR_case tOut)
open Fr (fbackR)
open Ze (backR backR_len)
open In (Ints IsI made_ints)
open Dr (Aft)
theorem low2 {B:Nat} {w0 w w':World} (hB:w0.heap.size=B) (h:Below B w0 w) (hb:Below w.heap.size w w'):Below B w0 w':=h.trans (hb.mono (by rw[<-hB];exact h.size))
theorem ext_size (t:ByteArray) (p:Nat):(t.extract p t.size).size<=t.size:=by
 rw[ByteArray.size_extract];omega
end Up
namespace Up
open Pk
open Gn (rd run numR)
open Hf (up up_length up_set)
open Bi (above)
theorem run_on (s:ByteArray):∀ f k p u,(run s f k p u).2.2=0->p<(run s f k p u).2.1:=by
 intro f
 induction f with
 |zero=>intro k p u h;exact absurd (show (3:Int)=0 from h) (by decide)
 |succ f ih =>
  intro k p u h;rw[run]at h ⊢
  split at h
  ·exact absurd h (by decide)
  ·rename_i h1
   rw[if_neg h1]
   split at h
   ·exact absurd h (by decide)
   ·rename_i h2
    rw[if_neg h2]
    split at h
    ·rename_i h3
     rw[if_pos h3]
     split at h
     ·exact absurd h (by decide)
     ·rename_i h4
      rw[if_neg h4]
      show p<p+1
      omega
    ·rename_i h3
     rw[if_neg h3]
     have:=ih _ _ _ h
     omega
theorem rd_on {s:ByteArray} {a:Nat} (h:(rd s (a:Int)).2.2=0):a<(rd s (a:Int)).2.1:=by
 unfold rd at h ⊢
 split at h
 ·exact absurd h (by decide)
 ·rename_i h1
  rw[if_neg h1]
  split at h
  ·exact absurd h (by decide)
  ·rename_i h2
   rw[if_neg h2];exact run_on s _ _ _ _ h
def RdI (t:ByteArray) (k:Nat) (p:Nat):Prop:=p<=t.size/\∀ b,Good t b->p=posK b k
theorem rdI_step {t:ByteArray} {k p:Nat} (h:RdI t k p) (hk:∀ b,Good t b->k<(numsAll b).length) :
  ((rd t (p:Int)).2.2=0->RdI t (k+1) (rd t (p:Int)).2.1/\∀ b,Good t b->(numsAll b)[k]? = some (rd t (p:Int)).1)/\(¬(rd t (p:Int)).2.2=0->∀ b,¬Good t b):=by
 have key:∀ b,Good t b->∃ v,(numsAll b)[k]? = some v/\rd t (p:Int)=(v,posK b (k+1),0):=by
  intro b hb;have hl:=hk b hb
  have:=rd_good hb k hl
  rw[<-h.2 b hb]at this;exact⟨_,List.getElem?_eq_getElem hl,this⟩
 refine⟨fun _=>⟨⟨rd_end t _,fun b hb=>?_⟩,fun b hb=>?_⟩,fun hn b hb=>?_⟩
 ·obtain⟨v,_,e⟩:=key b hb
  rw[e]
 ·obtain⟨v,h1,e⟩:=key b hb
  rw[e];exact h1
 ·obtain⟨v,_,e⟩:=key b hb
  exact hn (by rw[e])
theorem rdI_first {t:ByteArray} (h:1<=t.size):RdI t 0 1:=⟨h,fun b _=>by unfold posK;simp[numsL]⟩
theorem four_le (b:ByteArray) (k:Nat) (h:k<4):k<(numsAll b).length:=by rw[numsAll_len];omega
end Up
namespace Up
open Pk
open Gn (rd errV)
open Hf (up up_length up_set)
open Bi (above)
open Go.Proofs.YtbdcffjcogglbaaGreatDoor.So (bwtA)
theorem errV_yes {c:Int} (h:c=0):errV c=.nilIface:=if_pos h
theorem errV_no {c:Int} (h:¬c=0):errV c=.iface 171 (.agg #[.int .i64 c]):=if_neg h
def HeadF (s:ByteArray) (k:Nat) (l:List Int):Prop:=∀ b,Good s b->∀ j,j<k->(numsAll b)[j]? = l[j]?
theorem head_none (s:ByteArray) (l:List Int):HeadF s 0 l:=fun _ _ j h=>absurd h (by omega)
theorem head_next {s:ByteArray} {k:Nat} {l:List Int} {x:Int} (h:HeadF s k l) (hk:k<l.length) (hx:∀ b,Good s b->(numsAll b)[k]? = some x):HeadF s (k+1) (l.set k x):=by
 intro b hb j hj;by_cases e:j=k
 ·subst e
  rw[hx b hb,List.getElem?_set_self hk]
 ·rw[List.getElem?_set_ne (by omega)]
  exact h b hb j (by omega)
def TabF (s:ByteArray) (m:Nat) (l:List Int):Prop:=∀ b,Good s b->m<=above (up (lenS b))/\l=up (tabL (lenS b) (Hf.zeros 257) ((syL (lenS b) 257).take m))
theorem tab_none (s:ByteArray):TabF s 0 (List.replicate 257 0):=fun b _=>⟨Nat.zero_le _,by rw[List.take_zero];exact zeros_up.symm⟩
theorem tab_lt {s:ByteArray} {m:Nat} {l:List Int} {x3:Int} (hh:HeadF s 4 l) (h3:l[3]? = some x3) (hlt:(m:Int)<x3):∀ b,Good s b->m<above (up (lenS b)):=by
 intro b hb
 have:=hh b hb 3 (by omega)
 rw[(numsAll_head b).2.2.2,h3]at this
 have:=Option.some.inj this
 omega
theorem tab_len {s:ByteArray} {m:Nat} (h:∀ b,Good s b->m<above (up (lenS b))):(∀ b,Good s b->4+2*m<(numsAll b).length)/\(∀ b,Good s b->4+2*m+1<(numsAll b).length) :=
 ⟨fun b hb=>by rw[numsAll_len];have:=h b hb;omega,fun b hb=>by rw[numsAll_len];have:=h b hb;omega⟩
theorem tab_sym {s:ByteArray} {m:Nat} {y:Int} (h:∀ b,Good s b->m<above (up (lenS b))) (hy:∀ b,Good s b->(numsAll b)[4+2*m]? = some y) (hw:y<0∨257<=y):∀ b,¬Good s b:=by
 intro b hb
 have hj:m<(syL (lenS b) 257).length:=by rw[syL_len];exact h b hb
 have h1:=(numsAll_pair b m hj).1;rw[hy b hb]at h1;have h2:=Option.some.inj h1;have h3:=syL_lt _ (List.getElem_mem hj);omega
theorem tab_next {s:ByteArray} {m y:Nat} {z:Int} {l:List Int} (h:TabF s m l) (hlt:∀ b,Good s b->m<above (up (lenS b)))
  (h1:∀ b,Good s b->(numsAll b)[4+2*m]? = some (y:Int)) (h2:∀ b,Good s b->(numsAll b)[4+2*m+1]? = some z):TabF s (m+1) (l.set y z):=by
 intro b hb;obtain⟨h3,h4⟩:=h b hb;have h5:=hlt b hb
 have hj:m<(syL (lenS b) 257).length:=by rw[syL_len];omega
 obtain⟨k1,k2⟩:=numsAll_pair b m hj;rw[h1 b hb]at k1;rw[h2 b hb]at k2
 have e1:y=(syL (lenS b) 257)[m]:=by have:=Option.some.inj k1;omega
 have e2:=Option.some.inj k2;refine⟨by omega,?_⟩;rw[tabL_next _ _ _ _ hj,h4,e2,e1,<-up_set]
def AllF (s:ByteArray) (p:Nat) (l l':List Int):Prop:=∀ b,Good s b->l'=up (lenS b)/\l[1]? = some ((bwtA b:Nat):Int)/\l[2]? = some ((symS b).length:Int)/\s.extract p s.size=bitsS b
theorem tab_end {s:ByteArray} {m p:Nat} {l l':List Int} {x3:Int} (h:TabF s m l') (hh:HeadF s 4 l) (hr:RdI s (4+2*m) p) (h3:l[3]? = some x3) (hge:x3<=(m:Int)):AllF s p l l':=by
 intro b hb;have h4:=hh b hb 3 (by omega);rw[(numsAll_head b).2.2.2,h3]at h4;have h5:=Option.some.inj h4;obtain⟨h6,h7⟩:=h b hb
 have e:m=above (up (lenS b)):=by omega
 refine⟨?_,?_,?_,?_⟩
 ·rw[h7,List.take_of_length_le (by rw[syL_len];omega),tabL_all _ (lenS_facts b).1]
 ·rw[<-hh b hb 1 (by omega),(numsAll_head b).2.1]
 ·rw[<-hh b hb 2 (by omega),(numsAll_head b).2.2.1]
 ·have e2:p=posK b (numsAll b).length:=by
   rw[numsAll_len,<-e];exact hr.2 b hb
  rw[e2];exact(posK_all hb).2
theorem list4 {l:List Int} (h:l.length=4):∃ a b c d,l=[a,b,c,d]:=by
 match l,h with
 |[a,b,c,d],_=>exact⟨a,b,c,d,rfl⟩
end Up
end Go.Proofs.YtbdcffjcogglbaaGreatDoor
