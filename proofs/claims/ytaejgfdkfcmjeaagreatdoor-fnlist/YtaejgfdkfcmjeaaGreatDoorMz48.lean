import Derived.OpenVars
import Derived.LaidMore
import Derived.Test.YtaejgfdkfcmjeaaGreatDoorMz49
import Derived.Test.YtaejgfdkfcmjeaaGreatDoorMz45
set_option maxRecDepth 100000
set_option maxHeartbeats 8000000
namespace Go.Proofs.YtaejgfdkfcmjeaaGreatDoor
open Go.RowKit
open Go.Proofs.Tryz
namespace Sh
theorem arr_cells {H:Type} {enc:TypeId × Value->H} {P:Program} {w:World} {base:Nat} {sp:Nat->Bool} {held:Bool} {fuel:Nat} {t e:TypeId} {n:Nat} {k:IntKind} {cs:Array Value} {zs:List Int} {p:List MemPlace}
  (ht:P.underlying t=some (.array n e)) (he:P.underlying e=some (.int k)) (hc:P.cellsOf e=1) (hct:P.cellsOf t=n) (hz:zs.length=n)
  (h:DataW.trod enc P w base sp held fuel t cs.toList=some (.agg (zs.map fun z=>.lit (.int k z)),p)):cs=rowF k n (fun j=>zs.getD j 0):=by
 obtain⟨xs,m,rfl,hx,hl,hxl,hall⟩:=DataW.trod_array ht h
 have hxs:xs.map (·.1)=zs.map fun z=>(DataW.lit (.int k z):DataW H):=by
  have:=congrArg Prod.fst hx
  simpa using this.symm
 apply Array.ext_getElem?
 intro i;by_cases hi:i<n
 ·rw[rowF_get k n _ i hi]
  have h1:=hall i hi;obtain⟨b,hb⟩:∃ b,xs[i]? = some b:=⟨xs[i]'(by omega),List.getElem?_eq_getElem (by omega)⟩;rw[hb,hc]at h1;obtain⟨z,hcz,rfl,_⟩:=DataW.trod_int he h1
  have h2:cs.toList[i]? = some (.int k z):=by
   have:=congrArg (·[0]?) hcz
   simpa [List.getElem?_take,List.getElem?_drop] using this
  have h3:(xs.map (·.1))[i]? = some (DataW.lit (.int k z):DataW H):=by simp[hb]
  rw[hxs]at h3;simp only[List.getElem?_map,Option.map_eq_some_iff,DataW.lit.injEq,Lit.int.injEq,true_and]at h3;obtain⟨z',hz',rfl⟩:=h3;rw[<-Array.getElem?_toList,h2];simp[List.getD,hz']
 ·have h1:(rowF k n (fun j=>zs.getD j 0))[i]? = none:=by simp[rowF,hi]
  rw[h1,<-Array.getElem?_toList];exact List.getElem?_eq_none (by omega)
theorem var_block {P:Program} {w:World} {n:String} {g:Nat} {cs:Array Value} (hg:P.globalNamed n=some g) (h:w.var? P n=some cs):∃ t fr,w.heap[g]? = some (.cells cs t fr):=by
 unfold World.var? at h;rw[hg]at h;simp only[Option.bind_some]at h
 split at h
 ·rename_i c t fr hh
  obtain rfl:=Option.some.inj h;exact⟨t,fr,hh⟩
 ·cases h
theorem gFirst:prog.globalNamed "loop.example/g00550/impl.firstState"=some 1:=by kernel_rfl
theorem gRound:prog.globalNamed "loop.example/g00550/impl.roundNumbers"=some 3:=by kernel_rfl
theorem tFirst:(prog.globals[1]?).map (·.type)=some 163:=by kernel_rfl
theorem tRound:(prog.globals[3]?).map (·.type)=some 197:=by kernel_rfl
theorem vars_of_laid {W:World} (h:laidMetH prog [("loop.example/g00550/impl.firstState",Rows.laid_loop_example_g00550_impl_firstState),("loop.example/g00550/impl.roundNumbers",Rows.laid_loop_example_g00550_impl_roundNumbers)] W):Vars W:=by
 rw[MakeChecks.laidMetH_plain _ _ _ (by kernel_rfl)]at h;obtain⟨ps,⟨g0,t0,cs0,f0,p0,q0,hg0,ht0,hv0,hd0,⟨g1,t1,cs1,f1,p1,q1,hg1,ht1,hv1,hd1,_,_⟩,_⟩,_,_⟩:=h;obtain rfl:=Option.some.inj (gFirst.symm.trans hg0);obtain rfl:=Option.some.inj (gRound.symm.trans hg1);obtain rfl:=Option.some.inj (tFirst.symm.trans ht0);obtain rfl:=Option.some.inj (tRound.symm.trans ht1);have e0:=arr_cells (zs:=firstL) underlying163 underlying162 (by kernel_rfl) (by kernel_rfl) rfl hd0;have e1:=arr_cells (zs:=keyL) underlying197 underlying162 (by kernel_rfl) (by kernel_rfl) rfl hd1;subst e0;subst e1;exact⟨var_block hg0 hv0,var_block hg1 hv1⟩
end Sh
namespace Gn
theorem text_spec (s:ByteArray) (a:Int) (w:World) (hs:s.size<=maxLen) :
  Calls prog 46 #[.string s,.int .i64 a] w fun e w'=>e=.returned (textV s a)/\Below w.heap.size w w':=by
 obtain⟨⟨n,p,c⟩,hr⟩:∃ r,rd s a=r:=⟨_,rfl⟩;have hgv:=getV_of s a n p c hr;by_cases h0:c=0
 ·subst h0
  rw[if_pos rfl]at hgv;have HGV:=hide hgv;obtain⟨hs8,hp⟩:=rd_place s a (by rw[hr]);rw[hr]at hp
  simp only at hp
  clear hgv;by_cases hn:n<0∨8000<n
  ·have HT:=hide (textV_of s a _ _ _ (rt_size s a n p hr hn))
   clear hr;by_cases hneg:n<0
   ·clear hn
    go_enter func46,ntmps46;(go_wp2_with fail);refine(get_spec s a _ hs).mono ?_;rw[HGV.o];simp only[outN];rintro e w1 ⟨rfl,hb1⟩;obtain⟨hc1,hf1⟩:=bcell hb1;have hz1:w.heap.size<w1.heap.size:=(by have:=hb1.size;simp at this;omega);have q0:w1.cell? ⟨w.heap.size,0,none⟩=some (.string ⟨#[]⟩):=(by rw[hc1 _ _ (by simp)];simp);have q1:w1.cell? ⟨w.heap.size,1,none⟩=some (.int .i64 0):=(by rw[hc1 _ _ (by simp)];simp);have q2:w1.cell? ⟨w.heap.size,2,none⟩=some (.int .i64 0):=(by rw[hc1 _ _ (by simp)];simp)
    have f0:∀ o,w1.frozen? ⟨w.heap.size,o,none⟩=false:=fun o=>by rw[hf1 _ _ (by simp)];simp
    have KB:=hide (((Below.refl w.heap.size w).alloc nl _).trans (hb1.mono (by simp)));clear hc1 hf1
    go_wp2
    refine bodyPost_ret (v:=outT ⟨#[]⟩ 0 3) (by simp[results,outT,results46,go_sem,q0,q1,q2,hz1]) rfl ⟨by rw[HT.o];rfl,?_⟩
    repeat (first|exact KB.o|exact((KB.o.setCell nl _).setCell nl _).setCell nl _|refine Below.drew ?_|refine Below.alloc ?_ (by simp;omega) _)
   ·have hbig:(8000:Int)<n:=by omega
    clear hn;go_enter func46,ntmps46;(go_wp2_with fail);refine(get_spec s a _ hs).mono ?_;rw[HGV.o];simp only[outN];rintro e w1 ⟨rfl,hb1⟩;obtain⟨hc1,hf1⟩:=bcell hb1;have hz1:w.heap.size<w1.heap.size:=(by have:=hb1.size;simp at this;omega);have q0:w1.cell? ⟨w.heap.size,0,none⟩=some (.string ⟨#[]⟩):=(by rw[hc1 _ _ (by simp)];simp);have q1:w1.cell? ⟨w.heap.size,1,none⟩=some (.int .i64 0):=(by rw[hc1 _ _ (by simp)];simp);have q2:w1.cell? ⟨w.heap.size,2,none⟩=some (.int .i64 0):=(by rw[hc1 _ _ (by simp)];simp)
    have f0:∀ o,w1.frozen? ⟨w.heap.size,o,none⟩=false:=fun o=>by rw[hf1 _ _ (by simp)];simp
    have KB:=hide (((Below.refl w.heap.size w).alloc nl _).trans (hb1.mono (by simp)));clear hc1 hf1
    go_wp2
    refine bodyPost_ret (v:=outT ⟨#[]⟩ 0 3) (by simp[results,outT,results46,go_sem,q0,q1,q2,hz1]) rfl ⟨by rw[HT.o];rfl,?_⟩
    repeat (first|exact KB.o|exact((KB.o.setCell nl _).setCell nl _).setCell nl _|refine Below.drew ?_|refine Below.alloc ?_ (by simp;omega) _)
  ·obtain⟨m,rfl⟩:=Int.eq_ofNat_of_zero_le (show 0<=n from by omega)
   have hm8:m<=8000:=by omega
   have hnb:¬((8000:Int)<m):=by omega
   by_cases hl:s.size<p+m
   ·have HT:=hide (textV_of s a _ _ _ (rt_short s a m p hr hm8 hl))
    clear hn hr;go_enter func46,ntmps46;(go_wp2_with fail);refine(get_spec s a _ hs).mono ?_;rw[HGV.o];simp only[outN];rintro e w1 ⟨rfl,hb1⟩;obtain⟨hc1,hf1⟩:=bcell hb1;have hz1:w.heap.size<w1.heap.size:=(by have:=hb1.size;simp at this;omega);have q0:w1.cell? ⟨w.heap.size,0,none⟩=some (.string ⟨#[]⟩):=(by rw[hc1 _ _ (by simp)];simp);have q1:w1.cell? ⟨w.heap.size,1,none⟩=some (.int .i64 0):=(by rw[hc1 _ _ (by simp)];simp);have q2:w1.cell? ⟨w.heap.size,2,none⟩=some (.int .i64 0):=(by rw[hc1 _ _ (by simp)];simp)
    have f0:∀ o,w1.frozen? ⟨w.heap.size,o,none⟩=false:=fun o=>by rw[hf1 _ _ (by simp)];simp
    have KB:=hide (((Below.refl w.heap.size w).alloc nl _).trans (hb1.mono (by simp)));clear hc1 hf1
    go_wp2
    refine bodyPost_ret (v:=outT ⟨#[]⟩ 0 4) (by simp[results,outT,results46,go_sem,q0,q1,q2,hz1]) rfl ⟨by rw[HT.o];rfl,?_⟩
    repeat (first|exact KB.o|exact((KB.o.setCell nl _).setCell nl _).setCell nl _|refine Below.drew ?_|refine Below.alloc ?_ (by simp;omega) _)
   ·have HT:=hide (textV_of s a _ _ _ (rt_ok s a m p hr hm8 hl))
    have hwr:IntKind.i64.wrap ((p:Int)+m)=(p:Int)+m:=by rw[IntKind.wrap_i64];omega
    have hsl:∀ u:World,(Instr.slice 9 (.string s) (some (.int .i64 (p:Int))) (some (.int .i64 ((p:Int)+m))) none).run prog u=.ok (.string (s.extract p (p+m))) u:=fun u=>by
     rw[run_slice_string u 9 s .i64 .i64 _ _ underlying9 (by omega) (by omega) (by omega)];rw[Int.toNat_natCast,show ((p:Int)+m).toNat=p+m from by omega]
    clear hn hr;go_enter func46,ntmps46;(go_wp2_with fail);refine(get_spec s a _ hs).mono ?_;rw[HGV.o];simp only[outN];rintro e w1 ⟨rfl,hb1⟩;obtain⟨hc1,hf1⟩:=bcell hb1;have hz1:w.heap.size<w1.heap.size:=(by have:=hb1.size;simp at this;omega);have q0:w1.cell? ⟨w.heap.size,0,none⟩=some (.string ⟨#[]⟩):=(by rw[hc1 _ _ (by simp)];simp);have q1:w1.cell? ⟨w.heap.size,1,none⟩=some (.int .i64 0):=(by rw[hc1 _ _ (by simp)];simp);have q2:w1.cell? ⟨w.heap.size,2,none⟩=some (.int .i64 0):=(by rw[hc1 _ _ (by simp)];simp)
    have f0:∀ o,w1.frozen? ⟨w.heap.size,o,none⟩=false:=fun o=>by rw[hf1 _ _ (by simp)];simp
    have KB:=hide (((Below.refl w.heap.size w).alloc nl _).trans (hb1.mono (by simp)));clear hc1 hf1
    go_wp2
    go_region
    go_wp2
    refine bodyPost_ret (v:=outT (s.extract p (p+m)) ((p:Int)+m) 0) (by simp[results,outT,results46,go_sem,q0,q1,q2,hz1]) rfl ⟨by rw[HT.o];rfl,?_⟩
    repeat (first|exact KB.o|exact((KB.o.setCell nl _).setCell nl _).setCell nl _|refine Below.drew ?_|refine Below.alloc ?_ (by simp;omega) _)
 ·rw[if_neg h0]at hgv
  have HGV:=hide hgv;have HT:=hide (textV_of s a _ _ _ (rt_bad s a n p c hr h0))
  have hcn:(c != 0)=true:=by rw[bne_iff_ne];exact h0
  clear hgv hr h0;go_enter func46,ntmps46
  go_wp2_with fail
  refine(get_spec s a _ hs).mono ?_;rw[HGV.o];simp only[outN];rintro e w1 ⟨rfl,hb1⟩;obtain⟨hc1,hf1⟩:=bcell hb1
  have hz1:w.heap.size<w1.heap.size:=by have:=hb1.size;simp at this;omega
  have q0:w1.cell? ⟨w.heap.size,0,none⟩=some (.string ⟨#[]⟩):=by rw[hc1 _ _ (by simp)];simp
  have q1:w1.cell? ⟨w.heap.size,1,none⟩=some (.int .i64 0):=by rw[hc1 _ _ (by simp)];simp
  have q2:w1.cell? ⟨w.heap.size,2,none⟩=some (.int .i64 0):=by rw[hc1 _ _ (by simp)];simp
  have f0:∀ o,w1.frozen? ⟨w.heap.size,o,none⟩=false:=fun o=>by rw[hf1 _ _ (by simp)];simp
  have KB:=hide (((Below.refl w.heap.size w).alloc nl _).trans (hb1.mono (by simp)));clear hc1 hf1
  go_wp2
  refine bodyPost_ret (v:=outT ⟨#[]⟩ 0 c) (by simp[results,outT,results46,go_sem,q0,q1,q2,hz1]) rfl ⟨by rw[HT.o];rfl,?_⟩
  repeat (first|exact KB.o|exact((KB.o.setCell nl _).setCell nl _).setCell nl _|refine Below.drew ?_|refine Below.alloc ?_ (by simp;omega) _)
end Gn
namespace Ls
open Gn (rd getV getV_rd outN handle rt outT textV numR run run_end handle_below rd_codes)
theorem num_all (s:ByteArray) (a:Int):getV s a=.agg #[.int .i64 (rd s a).1,.int .i64 (rd s a).2.1,.int .i64 (rd s a).2.2]:=by
 rw[getV_rd]
 rcases rd_codes s a with h|⟨h,h1,h2⟩
 ·rw[if_pos h,h]
  rfl
 ·rw[if_neg h,h1,h2]
  rfl
theorem text_all (s:ByteArray) (a:Int):textV s a=.agg #[.string (rt s a).1,.int .i64 (rt s a).2.1,.int .i64 (rt s a).2.2]:=rfl
theorem eq_listL (a b:ByteArray):(a.toList==b.toList)=decide (a=b):=by
 by_cases h:a=b
 ·subst h
  simp
 ·rw[decide_eq_false h,beq_eq_false_iff_ne]
  intro q;refine h (bytes_extL ?_);rw[ByteArray.toList_eq,ByteArray.toList_eq]at q;exact q
theorem rd_empty (s:ByteArray) (h:s.size=0):¬(rd s 0).2.2=0:=by
 unfold rd;rw[if_neg (by omega),if_neg (by decide)]
 show ¬(numR s 0).2.2=0
 unfold numR;rw[run_end s 9 0 0 0 (by omega)];decide
theorem no_block {z b:Int} {r:ByteArray} (h:b=0∨r=⟨#[]⟩):bytesL z b r=⟨#[]⟩:=by
 refine bytesL_no ?_;unfold rightB;refine decide_eq_false ?_
 rcases h with h|h
 ·omega
 ·rw[h]
  intro q;exact absurd q.2.2.2.2.1 (by decide)
theorem bytes_some {z b:Int} {r s:ByteArray} (h:bytesL z b r=s) (hs:¬s.size=0):1<=b:=by
 cases hr:rightB z b r with
 |false =>
  rw[bytesL_no hr]at h;rw[<-h]at hs;exact absurd rfl hs
 |true=>exact(rightB_yes hr).2.2.1
def zR (s:ByteArray):Int:=(rd s 0).1
def bR (s:ByteArray):Int:=(rd s (rd s 0).2.1).1
def rR (s:ByteArray):ByteArray:=(rt s (rd s (rd s 0).2.1).2.1).1
def okR (s:ByteArray):Prop:=¬s.size=0/\bytesL (zR s) (bR s) (rR s)=s
noncomputable def readV (s:ByteArray):Value:=open Classical in if 8000<s.size then oV 0 0 ⟨#[]⟩ 2 else if okR s then oV (zR s) (bR s) (rR s) 0 else oV 0 0 ⟨#[]⟩ 3
theorem fault_no {s:ByteArray} (h:¬(rd s 0).2.2=0∨¬(rd s (rd s 0).2.1).2.2=0∨¬(rt s (rd s (rd s 0).2.1).2.1).2.2=0):¬okR s:=by
 rintro⟨h0,hb⟩
 have hn:bytesL (zR s) (bR s) (rR s)=⟨#[]⟩:=by
  refine no_block ?_
  rcases h with h|h|h
  ·left
   unfold bR
   rcases rd_codes s 0 with q|⟨q,q1,q2⟩
   ·exact absurd q h
   ·rw[q2]
    exact q1
  ·left
   unfold bR
   rcases rd_codes s ((rd s 0).2.1:Nat) with q|⟨q,q1,q2⟩
   ·exact absurd q h
   ·exact q1
  ·right
   exact(Gn.rt_codes s _ h).1
 rw[hn]at hb;rw[<-hb]at h0;exact h0 rfl
theorem set_j3 {W:World} {g:Nat} {x y z:Value} {T:TypeId} (h:W.heap[g]? = some (.cells #[x,y,z] T (0,0))) (v:Value):(W.setCell ⟨g,0,none⟩ v).heap[g]? = some (.cells #[v,y,z] T (0,0))/\(W.setCell ⟨g,1,none⟩ v).heap[g]? = some (.cells #[x,v,z] T (0,0))/\(W.setCell ⟨g,2,none⟩ v).heap[g]? = some (.cells #[x,y,v] T (0,0)):=by
 refine⟨?_,?_,?_⟩
 ·rw[heap_setCell_same W g 0 _ T v h];rfl
 ·rw[heap_setCell_same W g 1 _ T v h];rfl
 ·rw[heap_setCell_same W g 2 _ T v h];rfl
theorem set3_all {W:World} {g:Nat} {x y z:Value} {T:TypeId} (h:W.heap[g]? = some (.cells #[x,y,z] T (0,0))) (a b c:Value) :
  (((W.setCell ⟨g,0,none⟩ a).setCell ⟨g,1,none⟩ b).setCell ⟨g,2,none⟩ c).cell? ⟨g,0,none⟩=some a/\(((W.setCell ⟨g,0,none⟩ a).setCell ⟨g,1,none⟩ b).setCell ⟨g,2,none⟩ c).cell? ⟨g,1,none⟩=some b/\(((W.setCell ⟨g,0,none⟩ a).setCell ⟨g,1,none⟩ b).setCell ⟨g,2,none⟩ c).cell? ⟨g,2,none⟩=some c:=cells3 (set_j3 (set_j3 (set_j3 h a).1 b).2.1 c).2.2
theorem set3_down {B:Nat} {w W:World} (h:Below B w W) (a b c:Value):Below B w (((W.setCell ⟨B,0,none⟩ a).setCell ⟨B,1,none⟩ b).setCell ⟨B,2,none⟩ c):=((h.setCell (p:=⟨B,0,none⟩) nl a).setCell (p:=⟨B,1,none⟩) nl b).setCell (p:=⟨B,2,none⟩) nl c
end Ls
namespace Ls
open Gn (rd getV handle rt textV handle_below handle_alloc)
def HH (w:World):Prop:=w.cell? ⟨2,0,none⟩=some handle
theorem hh_keep {w w':World} (h:HH w) (hb:Below w.heap.size w w'):HH w':=handle_below hb h
theorem readList_any (s:ByteArray) (w:World) (hs:s.size<=8000) (hh:HH w) :
  Calls prog 36 #[.string s] w fun e w'=>(okR s/\e=.returned (lV (zR s) (bR s) (rR s))∨¬okR s/\e=.returned (lV 0 0 ⟨#[]⟩))/\Below w.heap.size w w':=by
 obtain⟨g,hg⟩:∃ g,g=w.heap.size:=⟨_,rfl⟩;have HBE:=hideL hg.symm
 have HR0:Hid ((w.alloc (.cells #[.int .i64 0,.int .i64 0,.string ⟨#[]⟩] 26)).heap[g]? = some (.cells #[.int .i64 0,.int .i64 0,.string ⟨#[]⟩] 26 (0,0))):=by rw[hg];exact heap_alloc_new w _
 have HL0:Hid (Below g w (w.alloc (.cells #[.int .i64 0,.int .i64 0,.string ⟨#[]⟩] 26))):=by rw[hg];exact(Below.refl _ _).alloc nl _
 have HH0:Hid (HH (w.alloc (.cells #[.int .i64 0,.int .i64 0,.string ⟨#[]⟩] 26))):=hh_keep hh ((Below.refl _ _).alloc nl _);clear hh;have H1:=hideL (fun W h=>Gn.get_impl s 0 W (by unfold maxLen;omega) h);have H2:=hideL (fun W h=>Gn.get_impl s (rd s 0).2.1 W (by unfold maxLen;omega) h);have H3:=hideL (fun W h=>Gn.text_impl s (rd s (rd s 0).2.1).2.1 W (by unfold maxLen;omega) h);rw[num_all]at H1 H2;rw[text_all]at H3;have HFN:=hideL (fault_no (s:=s));have HBI:=hideL (fun W=>bytes_impl (zR s) (bR s) (rR s) W);have HOK:Hid (okR s=(¬s.size=0/\bytesL (zR s) (bR s) (rR s)=s)):=rfl;have HEM:=hideL (rd_empty s);unfold lV at HBI
 change Hid (∀ W,HH W->_) at H1 H2 H3
 generalize okR s=OK at HFN HOK ⊢;unfold zR bR rR at HBI HOK ⊢;generalize rt s (rd s (rd s 0).2.1).2.1=x3 at H3 HFN HBI HOK ⊢;generalize rd s (rd s 0).2.1=x2 at H2 H3 HFN HBI HOK ⊢;generalize rd s 0=x1 at H1 H2 HFN HBI HOK HEM ⊢;obtain⟨z,p1,c1⟩:=x1;obtain⟨b,p2,c2⟩:=x2;obtain⟨r,p3,c3⟩:=x3;dsimp only at H1 H2 H3 HFN HBI HOK HEM ⊢;go_enter func36,ntmps36
 go_wp2_with fail
 rw[<-hg];clear hg;generalize hww:w.alloc (.cells #[.int .i64 0,.int .i64 0,.string ⟨#[]⟩] 26)=w0 at HR0 HL0 HH0 ⊢;clear hww;refine(H1.o _ HH0.o).mono ?_;rintro e v1 ⟨rfl,hb⟩;have R1a:=hideL (blkL HR0.o hb);have L1a:=hideL (lowB HBE.o HL0.o hb);have H1a:=hideL (hh_keep HH0.o hb);clear hb HR0 HL0 HH0;have R1:Hid ((v1.alloc (.cells #[.int .i64 z,.int .i64 p1,.int .i64 c1] 64)).heap[g]? = some (.cells #[.int .i64 0,.int .i64 0,.string ⟨#[]⟩] 26 (0,0))):=blk_alloc R1a.o _;have L1:Hid (Below g w (v1.alloc (.cells #[.int .i64 z,.int .i64 p1,.int .i64 c1] 64))):=lowB_alloc HBE.o L1a.o _;have HQ1:Hid (HH (v1.alloc (.cells #[.int .i64 z,.int .i64 p1,.int .i64 c1] 64))):=hh_keep H1a.o ((Below.refl _ _).alloc nl _);have X1_1:Hid ((v1.alloc (.cells #[.int .i64 z,.int .i64 p1,.int .i64 c1] 64)).heap[v1.heap.size]? = some (.cells #[.int .i64 z,.int .i64 p1,.int .i64 c1] 64 (0,0))):=heap_alloc_new v1 _
 go_wp2_with fail
 generalize hww:v1.alloc (.cells #[.int .i64 z,.int .i64 p1,.int .i64 c1] 64)=u1 at R1 L1 HQ1 X1_1 ⊢;generalize v1.heap.size=g1 at X1_1 ⊢;clear hww R1a L1a H1a;refine(H2.o _ HQ1.o).mono ?_;rintro e v2 ⟨rfl,hb⟩;have R2a:=hideL (blkL R1.o hb);have L2a:=hideL (lowB HBE.o L1.o hb);have H2a:=hideL (hh_keep HQ1.o hb);have X1_2a:=hideL (blkL X1_1.o hb);clear hb R1 L1 HQ1 X1_1;have R2:Hid ((v2.alloc (.cells #[.int .i64 b,.int .i64 p2,.int .i64 c2] 64)).heap[g]? = some (.cells #[.int .i64 0,.int .i64 0,.string ⟨#[]⟩] 26 (0,0))):=blk_alloc R2a.o _;have L2:Hid (Below g w (v2.alloc (.cells #[.int .i64 b,.int .i64 p2,.int .i64 c2] 64))):=lowB_alloc HBE.o L2a.o _;have HQ2:Hid (HH (v2.alloc (.cells #[.int .i64 b,.int .i64 p2,.int .i64 c2] 64))):=hh_keep H2a.o ((Below.refl _ _).alloc nl _);have X1_2:Hid ((v2.alloc (.cells #[.int .i64 b,.int .i64 p2,.int .i64 c2] 64)).heap[g1]? = some (.cells #[.int .i64 z,.int .i64 p1,.int .i64 c1] 64 (0,0))):=blk_alloc X1_2a.o _;have X2_2:Hid ((v2.alloc (.cells #[.int .i64 b,.int .i64 p2,.int .i64 c2] 64)).heap[v2.heap.size]? = some (.cells #[.int .i64 b,.int .i64 p2,.int .i64 c2] 64 (0,0))):=heap_alloc_new v2 _
 go_wp2_with fail
 generalize hww:v2.alloc (.cells #[.int .i64 b,.int .i64 p2,.int .i64 c2] 64)=u2 at R2 L2 HQ2 X1_2 X2_2 ⊢;generalize v2.heap.size=g2 at X2_2 ⊢;clear hww R2a L2a H2a X1_2a;refine(H3.o _ HQ2.o).mono ?_;rintro e v3 ⟨rfl,hb⟩;have R3a:=hideL (blkL R2.o hb);have L3a:=hideL (lowB HBE.o L2.o hb);have H3a:=hideL (hh_keep HQ2.o hb);have X1_3a:=hideL (blkL X1_2.o hb);have X2_3a:=hideL (blkL X2_2.o hb);clear hb R2 L2 HQ2 X1_2 X2_2;have R3:Hid ((v3.alloc (.cells #[.string r,.int .i64 p3,.int .i64 c3] 67)).heap[g]? = some (.cells #[.int .i64 0,.int .i64 0,.string ⟨#[]⟩] 26 (0,0))):=blk_alloc R3a.o _;have L3:Hid (Below g w (v3.alloc (.cells #[.string r,.int .i64 p3,.int .i64 c3] 67))):=lowB_alloc HBE.o L3a.o _;have HQ3:Hid (HH (v3.alloc (.cells #[.string r,.int .i64 p3,.int .i64 c3] 67))):=hh_keep H3a.o ((Below.refl _ _).alloc nl _);have X1_3:Hid ((v3.alloc (.cells #[.string r,.int .i64 p3,.int .i64 c3] 67)).heap[g1]? = some (.cells #[.int .i64 z,.int .i64 p1,.int .i64 c1] 64 (0,0))):=blk_alloc X1_3a.o _;have X2_3:Hid ((v3.alloc (.cells #[.string r,.int .i64 p3,.int .i64 c3] 67)).heap[g2]? = some (.cells #[.int .i64 b,.int .i64 p2,.int .i64 c2] 64 (0,0))):=blk_alloc X2_3a.o _;have X3_3:Hid ((v3.alloc (.cells #[.string r,.int .i64 p3,.int .i64 c3] 67)).heap[v3.heap.size]? = some (.cells #[.string r,.int .i64 p3,.int .i64 c3] 67 (0,0))):=heap_alloc_new v3 _
 go_upto_region 4 with fail
 generalize hww:v3.alloc (.cells #[.string r,.int .i64 p3,.int .i64 c3] 67)=u3 at R3 L3 HQ3 X1_3 X2_3 X3_3 ⊢;generalize v3.heap.size=g3 at X3_3 ⊢;clear hww R3a L3a H3a X1_3a X2_3a HQ3;obtain⟨a0,a1,a2⟩:=cells3 X1_3.o;obtain⟨b0,b1,b2⟩:=cells3 X2_3.o;obtain⟨d0,d1,d2⟩:=cells3 X3_3.o;obtain⟨q0,q1,q2⟩:=cells3 R3.o;have ff:=fun o=>frozen_of_row u3 g o _ _ R3.o;by_cases hf:¬c1=0∨¬c2=0∨¬c3=0
 ·have HNO:=hideL (HFN.o hf)
  have s3:=set3_all R3.o (.int .i64 0) (.int .i64 0) (.string ⟨#[]⟩);have E3:=hideL (set3_down L3.o (.int .i64 0) (.int .i64 0) (.string ⟨#[]⟩));by_cases h1:c1=0
  ·have h1':(c1 != 0)=false:=by simp;exact h1
   have K1:=hideL h1;clear h1;by_cases h2:c2=0
   ·have h2':(c2 != 0)=false:=by simp;exact h2
    have h3':(c3 != 0)=true:=by simp;have:=K1.o;omega
    clear h2 hf;(go_wp2_with fail);refine bodyPost_ret (v:=.agg #[.int .i64 0,.int .i64 0,.string ⟨#[]⟩]) (by simp[results,results36,go_sem,s3.1,s3.2.1,s3.2.2]) rfl ⟨.inr ⟨HNO.o,rfl⟩,?_⟩;rw[HBE.o];exact E3.o
   ·have h2':(c2 != 0)=true:=by simp;exact h2
    clear hf;(go_wp2_with fail);refine bodyPost_ret (v:=.agg #[.int .i64 0,.int .i64 0,.string ⟨#[]⟩]) (by simp[results,results36,go_sem,s3.1,s3.2.1,s3.2.2]) rfl ⟨.inr ⟨HNO.o,rfl⟩,?_⟩;rw[HBE.o];exact E3.o
  ·have h1':(c1 != 0)=true:=by simp;exact h1
   clear hf
   go_wp2_with fail
   refine bodyPost_ret (v:=.agg #[.int .i64 0,.int .i64 0,.string ⟨#[]⟩]) (by simp[results,results36,go_sem,s3.1,s3.2.1,s3.2.2]) rfl ⟨.inr ⟨HNO.o,rfl⟩,?_⟩;rw[HBE.o];exact E3.o
 ·have h1':(c1 != 0)=false:=by simp;omega
  have h2':(c2 != 0)=false:=by simp;omega
  have h3':(c3 != 0)=false:=by simp;omega
  have HNZ:Hid (¬s.size=0):=fun h=>HEM.o h (by omega);clear hf HFN;have R4:Hid ((u3.alloc (.cells #[.int .i64 z,.int .i64 b,.string r] 26)).heap[g]? = some (.cells #[.int .i64 0,.int .i64 0,.string ⟨#[]⟩] 26 (0,0))):=blk_alloc R3.o _;have X4:Hid ((u3.alloc (.cells #[.int .i64 z,.int .i64 b,.string r] 26)).heap[u3.heap.size]? = some (.cells #[.int .i64 z,.int .i64 b,.string r] 26 (0,0))):=heap_alloc_new u3 _;have L4:Hid (Below g w (u3.alloc (.cells #[.int .i64 z,.int .i64 b,.string r] 26))):=lowB_alloc HBE.o L3.o _
  go_wp2_with fail
  generalize hww:u3.alloc (.cells #[.int .i64 z,.int .i64 b,.string r] 26)=u4 at R4 X4 L4 ⊢;generalize u3.heap.size=g4 at X4 ⊢;clear hww ff q0 q1 q2 a0 a1 a2 b0 b1 b2 d0 d1 d2;refine(HBI.o _).mono ?_;rintro e v5 ⟨rfl,hb⟩;have R5:=hideL (blkL R4.o hb);have X5:=hideL (blkL X4.o hb);have L5:=hideL (lowB HBE.o L4.o hb);clear hb R4 X4 L4 HBI;obtain⟨a0,a1,a2⟩:=cells3 X5.o;obtain⟨q0,q1,q2⟩:=cells3 R5.o;have ff:=fun o=>frozen_of_row v5 g o _ _ R5.o;generalize bytesL z b r=B at HOK ⊢;by_cases hB:B=s
  ·have HY:Hid OK:=by rw[HOK.o];exact⟨HNZ.o,hB⟩
   have s3:=set3_all R5.o (.int .i64 z) (.int .i64 b) (.string r);have E3:=hideL (set3_down L5.o (.int .i64 z) (.int .i64 b) (.string r));clear HOK;subst hB
   go_wp2_with fail
   refine bodyPost_ret (v:=.agg #[.int .i64 z,.int .i64 b,.string r]) (by simp[results,results36,go_sem,s3.1,s3.2.1,s3.2.2]) rfl ⟨.inl ⟨HY.o,rfl⟩,?_⟩;rw[HBE.o];exact E3.o
  ·have hB':(B.toList==s.toList)=false:=by rw[eq_listL];exact decide_eq_false hB
   have HY:Hid (¬OK):=by rw[HOK.o];exact fun q=>hB q.2
   have s3:=set3_all R5.o (.int .i64 0) (.int .i64 0) (.string ⟨#[]⟩);have E3:=hideL (set3_down L5.o (.int .i64 0) (.int .i64 0) (.string ⟨#[]⟩));clear HOK
   go_wp2_with fail
   refine bodyPost_ret (v:=.agg #[.int .i64 0,.int .i64 0,.string ⟨#[]⟩]) (by simp[results,results36,go_sem,s3.1,s3.2.1,s3.2.2]) rfl ⟨.inr ⟨HY.o,rfl⟩,?_⟩;rw[HBE.o];exact E3.o
theorem readV_yes {s:ByteArray} (h8:s.size<=8000) (h:okR s):readV s=oV (zR s) (bR s) (rR s) 0:=by
 unfold readV;rw[if_neg (by omega),if_pos h]
theorem readV_no {s:ByteArray} (h8:s.size<=8000) (h:¬okR s):readV s=oV 0 0 ⟨#[]⟩ 3:=by
 unfold readV;rw[if_neg (by omega),if_neg h]
theorem read_impl (s:ByteArray) (w:World) (hs:s.size<=1048576) (hh:HH w) :
  Calls prog 9 #[.string s] w fun e w'=>e=.returned (readV s)/\Below w.heap.size w w':=by
 obtain⟨g,hg⟩:∃ g,g=w.heap.size:=⟨_,rfl⟩;have HBE:=hideL hg.symm
 have HR0:Hid ((w.alloc (.cells #[.int .i64 0,.int .i64 0,.string ⟨#[]⟩,.int .i64 0] 28)).heap[g]? = some (.cells #[.int .i64 0,.int .i64 0,.string ⟨#[]⟩,.int .i64 0] 28 (0,0))):=by rw[hg];exact heap_alloc_new w _
 have HL0:Hid (Below g w (w.alloc (.cells #[.int .i64 0,.int .i64 0,.string ⟨#[]⟩,.int .i64 0] 28))):=by rw[hg];exact(Below.refl _ _).alloc nl _
 have HH0:Hid (HH (w.alloc (.cells #[.int .i64 0,.int .i64 0,.string ⟨#[]⟩,.int .i64 0] 28))):=hh_keep hh ((Below.refl _ _).alloc nl _);clear hh;by_cases h8:8000<s.size
 ·have HF:Hid (readV s=oV 0 0 ⟨#[]⟩ 2):=if_pos h8
  rw[HF.o];clear hg;go_enter func9,ntmps9
  go_wp2
  refine bodyPost_ret (v:=oV 0 0 ⟨#[]⟩ 2) (by simp[results,oV,results9,go_sem]) rfl ⟨rfl,?_⟩;exact(Below.refl _ _).alloc nl _
 ·have h8':decide ((8000:Int)<(s.size:Int))=false:=by simp;omega
  have HYES:=hideL (fun h=>readV_yes (s:=s) (by omega) h);have HNO:=hideL (fun h=>readV_no (s:=s) (by omega) h);have HBS:Hid (okR s->1<=bR s):=fun h=>bytes_some h.2 h.1;generalize readV s=A at HYES HNO ⊢;go_enter func9,ntmps9
  go_wp2_with fail
  rw[<-hg];generalize hww:w.alloc (.cells #[.int .i64 0,.int .i64 0,.string ⟨#[]⟩,.int .i64 0] 28)=w0 at HR0 HL0 HH0 ⊢;clear hww hg;refine(readList_any s w0 (by omega) HH0.o).mono ?_;rintro e w1 ⟨⟨hok,rfl⟩|⟨hok,rfl⟩,hb⟩
  ·have HA:=hideL (HYES.o hok)
   have hb1:=HBS.o hok;have hb0:(bR s==0)=false:=beq_eq_false_iff_ne.2 (by omega);unfold lV;generalize zR s=z at HA ⊢;generalize bR s=b at HA hb1 hb0 ⊢;generalize rR s=r at HA ⊢;have R1:=hideL (blkL HR0.o hb);have L1:=hideL (lowB HBE.o HL0.o hb);clear hb HR0 HL0 HH0 HYES HNO HBS hok;have R2:Hid ((w1.alloc (.cells #[.int .i64 z,.int .i64 b,.string r] 26)).heap[g]? = some (.cells #[.int .i64 0,.int .i64 0,.string ⟨#[]⟩,.int .i64 0] 28 (0,0))):=blk_alloc R1.o _;have X2:Hid ((w1.alloc (.cells #[.int .i64 z,.int .i64 b,.string r] 26)).heap[w1.heap.size]? = some (.cells #[.int .i64 z,.int .i64 b,.string r] 26 (0,0))):=heap_alloc_new w1 _;have L2:Hid (Below g w (w1.alloc (.cells #[.int .i64 z,.int .i64 b,.string r] 26))):=lowB_alloc HBE.o L1.o _
   go_upto_region 4 with fail
   generalize hww:w1.alloc (.cells #[.int .i64 z,.int .i64 b,.string r] 26)=u2 at R2 X2 L2 ⊢;generalize w1.heap.size=g2 at X2 ⊢;clear hww R1 L1;obtain⟨a0,a1,a2⟩:=cells3 X2.o;obtain⟨q0,q1,q2,q3⟩:=cells4 R2.o;have ff:=fun o=>frozen_of_row u2 g o _ _ R2.o;have s4:=set4_cells R2.o (.int .i64 z) (.int .i64 b) (.string r) (.int .i64 0);have E4:=hideL (set4_low L2.o (.int .i64 z) (.int .i64 b) (.string r) (.int .i64 0))
   go_wp2_with fail
   refine bodyPost_ret (v:=oV z b r 0) (by simp[results,oV,results9,go_sem,s4.1,s4.2.1,s4.2.2.1,s4.2.2.2]) rfl ⟨by rw[HA.o],?_⟩;rw[HBE.o];exact E4.o
  ·have HA:=hideL (HNO.o hok)
   unfold lV;have R1:=hideL (blkL HR0.o hb);have L1:=hideL (lowB HBE.o HL0.o hb);clear hb HR0 HL0 HH0 HYES HNO HBS hok;have R2:Hid ((w1.alloc (.cells #[.int .i64 0,.int .i64 0,.string ⟨#[]⟩] 26)).heap[g]? = some (.cells #[.int .i64 0,.int .i64 0,.string ⟨#[]⟩,.int .i64 0] 28 (0,0))):=blk_alloc R1.o _;have X2:Hid ((w1.alloc (.cells #[.int .i64 0,.int .i64 0,.string ⟨#[]⟩] 26)).heap[w1.heap.size]? = some (.cells #[.int .i64 0,.int .i64 0,.string ⟨#[]⟩] 26 (0,0))):=heap_alloc_new w1 _;have L2:Hid (Below g w (w1.alloc (.cells #[.int .i64 0,.int .i64 0,.string ⟨#[]⟩] 26))):=lowB_alloc HBE.o L1.o _
   go_upto_region 4 with fail
   generalize hww:w1.alloc (.cells #[.int .i64 0,.int .i64 0,.string ⟨#[]⟩] 26)=u2 at R2 X2 L2 ⊢;generalize w1.heap.size=g2 at X2 ⊢;clear hww R1 L1;obtain⟨a0,a1,a2⟩:=cells3 X2.o;obtain⟨q0,q1,q2,q3⟩:=cells4 R2.o;have ff:=fun o=>frozen_of_row u2 g o _ _ R2.o;have s4:=set4_cells R2.o (.int .i64 0) (.int .i64 0) (.string ⟨#[]⟩) (.int .i64 3);have E4:=hideL (set4_low L2.o (.int .i64 0) (.int .i64 0) (.string ⟨#[]⟩) (.int .i64 3))
   go_wp2_with fail
   refine bodyPost_ret (v:=oV 0 0 ⟨#[]⟩ 3) (by simp[results,oV,results9,go_sem,s4.1,s4.2.1,s4.2.2.1,s4.2.2.2]) rfl ⟨by rw[HA.o],?_⟩;rw[HBE.o];exact E4.o
end Ls
namespace Kp
open Go.RowKit Go.ChangeShapes Go.WideShapes Go.ChangeAt Go.Deep
open Ls (HH)
open Sh (Vars)
theorem etK:prog.globalNamed "errors.errorType"=some 2:=by kernel_rfl
theorem rtK:(prog.cutTypes.find? (·.1 == "internal/reflectlite.rtype")).map (·.2)=some 144:=by kernel_rfl
theorem oneRowK:((List.range 290).filter fun t=>prog.rowNamed t [101,114,114,111,114])=[85]:=by kernel_rfl
theorem typesSizeK:prog.types.size=290:=by kernel_rfl
theorem both_of_laid {W:World} (h:laidMetH prog [("errors.errorType",Rows.laid_errors_errorType),("loop.example/g00550/impl.firstState",Rows.laid_loop_example_g00550_impl_firstState),("loop.example/g00550/impl.roundNumbers",Rows.laid_loop_example_g00550_impl_roundNumbers)] W):HH W/\Vars W:=by
 have h':laidMet prog [("loop.example/g00550/impl.firstState",Rows.laid_loop_example_g00550_impl_firstState),("loop.example/g00550/impl.roundNumbers",Rows.laid_loop_example_g00550_impl_roundNumbers)] W/\handlesMet prog [("errors.errorType",Rows.laid_errors_errorType)] W:=h;refine⟨?_,Sh.vars_of_laid (by rw[MakeChecks.laidMetH_plain _ _ _ (by kernel_rfl)];exact h'.1)⟩;obtain⟨name,u,ty,e1,e2,e3,e4,e5⟩:=h'.2 _ (List.mem_singleton.2 rfl);have en:name=[101,114,114,111,114]:=(Option.some.inj e1).symm;subst en;obtain rfl:=Option.some.inj (rtK.symm.trans e2);have hm:ty∈(List.range 290).filter fun t=>prog.rowNamed t [101,114,114,111,114]:=List.mem_filter.2 ⟨List.mem_range.2 (by rw[<-typesSizeK];exact e3),e4⟩;rw[oneRowK]at hm;obtain rfl:=List.mem_singleton.1 hm
 have hh:typeHandle prog 85=.pointer (some ⟨4,85,none⟩):=by kernel_rfl
 rw[hh]at e5
 show W.cell? ⟨2,0,none⟩=some Gn.handle
 unfold Gn.handle
 simpa using World.var?_cell etK e5 0
end Kp
namespace Kp
open Go.RowKit Go.ChangeShapes Go.WideShapes Go.ChangeAt Go.Deep
open Ls (HH)
open Sh (Vars)
open Up (Glob)
theorem laid_tail {P:Program} {x:String × DataW Unit} {l:List (String × DataW Unit)} {w:World} (h:laidMet P (x :: l) w):laidMet P l w:=by
 obtain⟨ps,⟨g0,t0,cs0,f0,p0,q0,hg0,ht0,hv0,hd0,hq0,e0⟩,hn,hr⟩:=h;subst e0;exact⟨q0,hq0,(List.nodup_append.1 hn).2.1,fun b off hm=>hr b off (List.mem_append_right _ hm)⟩
theorem laid_front {P:Program} {x y z:String × DataW Unit} {w:World} (h:laidMet P [x,y,z] w):laidMet P [x,y] w:=by
 obtain⟨ps,⟨g0,t0,cs0,f0,p0,q0,hg0,ht0,hv0,hd0,⟨g1,t1,cs1,f1,p1,q1,hg1,ht1,hv1,hd1,hq1,e1⟩,e0⟩,hn,hr⟩:=h;subst e1;subst e0
 have hsub:(MemPlace.row ⟨g0,0,none⟩ cs0.size++p0++(MemPlace.row ⟨g1,0,none⟩ cs1.size++p1++[])).Sublist (MemPlace.row ⟨g0,0,none⟩ cs0.size++p0++(MemPlace.row ⟨g1,0,none⟩ cs1.size++p1++q1)) :=
  (List.Sublist.refl _).append ((List.Sublist.refl _).append (List.nil_sublist _))
 exact⟨_,⟨g0,t0,cs0,f0,p0,_,hg0,ht0,hv0,hd0,⟨g1,t1,cs1,f1,p1,[],hg1,ht1,hv1,hd1,rfl,rfl⟩,rfl⟩,List.Pairwise.sublist hsub hn,fun b off hm=>hr b off (hsub.subset hm)⟩
theorem all_of_laid {W:World} (h:laidMetH prog [("errors.errorType",Rows.laid_errors_errorType),("loop.example/g00550/impl.firstState",Rows.laid_loop_example_g00550_impl_firstState),("loop.example/g00550/impl.roundNumbers",Rows.laid_loop_example_g00550_impl_roundNumbers),("loop.example/g00550/impl.errNoBlock",Rows.laid_loop_example_g00550_impl_errNoBlock)] W):HH W/\Vars W/\∃ a:Addr,Glob W (.iface 258 (.pointer (some a))):=by
 have h':laidMet prog [("loop.example/g00550/impl.firstState",Rows.laid_loop_example_g00550_impl_firstState),("loop.example/g00550/impl.roundNumbers",Rows.laid_loop_example_g00550_impl_roundNumbers),("loop.example/g00550/impl.errNoBlock",Rows.laid_loop_example_g00550_impl_errNoBlock)] W/\handlesMet prog [("errors.errorType",Rows.laid_errors_errorType)] W:=h;have h2:=both_of_laid (W:=W) (show laidMet prog [("loop.example/g00550/impl.firstState",Rows.laid_loop_example_g00550_impl_firstState),("loop.example/g00550/impl.roundNumbers",Rows.laid_loop_example_g00550_impl_roundNumbers)] W/\handlesMet prog [("errors.errorType",Rows.laid_errors_errorType)] W from ⟨laid_front h'.1,h'.2⟩);exact⟨h2.1,h2.2,Up.glob_of_met (laid_tail (laid_tail h'.1))⟩
end Kp
namespace Tr
open Sh (nodeV)
def conS:Nat->Nat->List ByteArray->ByteArray->ByteArray->Option (ByteArray × ByteArray)
 |_,last,[],x,y=>if last=0 then some (x,y) else none
 |a,last,p :: ps,x,y =>
  if last=0 then none
  else if a%2=1 then conS (a/2) (last/2) ps (nodeV p x) (nodeV p y)
  else if a=last then conS (od a/2) (od a/2) ps (nodeV p x) (nodeV p y)
  else conS (a/2) (last/2) ps x (nodeV y p)
def ex (a:Nat):Nat:=if _h:a%2=0/\0<a then ex (a/2)+1 else 0
termination_by a
decreasing_by omega
def conT (old n:Nat) (p:List ByteArray) (was:ByteArray):Option (ByteArray × ByteArray):=conS (od old-1) ((n-1)/2 ^ ex old) p was was
def conF (old n:Nat) (p:List ByteArray):Option (ByteArray × ByteArray) :=
 match p with
 |[]=>none
 |h :: ps=>conS (od old-1) ((n-1)/2 ^ ex old) ps h h
def conP (w:Bool) (old n:Nat) (p:List ByteArray) (was:ByteArray):Option (ByteArray × ByteArray):=if w=true/\od old=1 then conT old n p was else conF old n p
end Tr
namespace Tr
open Sh (nodeV leafV)
theorem incl_path:∀ (f:Nat) (l:List ByteArray) (i n:Nat) (x:ByteArray),n=l.length->l[i]? = some x->n<=f->climbR f n i (path l i) (leafV x)=some (tree l)
 |0,l,i,n,x,hn,hx,hf=>by
  obtain⟨h,_⟩:=List.getElem?_eq_some_iff.1 hx;omega
 |f+1,l,i,n,x,hn,hx,hf=>by
  obtain⟨h,he⟩:=List.getElem?_eq_some_iff.1 hx;rw[climbR];by_cases h1:l.length<=1
  ·have h2:i=0:=by omega
   subst h2;rw[if_pos (by omega),path_one l 0 h1,if_pos rfl,tree_one l (by omega),he]
  ·have k1:=half_lt l.length (by omega)
   have k2:=half_pos l.length;rw[if_neg (by omega),tree_two l (by omega)];subst hn;by_cases hi:i<half l.length
   ·rw[path_left l i (by omega) hi,List.getLast?_concat,List.dropLast_concat]
    have ih:=incl_path f (l.take (half l.length)) i (half l.length) x (by rw[List.length_take];omega) (by rw[List.getElem?_take_of_lt hi];exact hx) (by omega);simp only[if_pos hi,ih,Option.map_some]
   ·rw[path_right l i (by omega) hi,List.getLast?_concat,List.dropLast_concat]
    have ih:=incl_path f (l.drop (half l.length)) (i-half l.length) (l.length-half l.length) x (by rw[List.length_drop]) (by rw[List.getElem?_drop,show half l.length+(i-half l.length)=i by omega];exact hx) (by omega);simp only[if_neg hi,ih,Option.map_some]
end Tr
namespace Dr
open Kp (hideK lt_rowK)
open Ls (cells3 bytesL bytes_spec lV bytesL_no bytesL_yes bytesA)
theorem bytesL_size {z b:Int} {r:ByteArray}:(bytesL z b r).size<=62:=by
 cases h:Ls.rightB z b r with
 |false=>rw[bytesL_no h];decide
 |true =>
  rw[bytesL_yes h];unfold bytesA;rw[ByteArray.size_append,ByteArray.size_append];have h1:=Nu.putS_size z;have h2:=Nu.putS_size b;have h3:=Ls.putT_size r (Ls.rightB_yes h).2.2.2.2.1;omega
theorem drawListOf_any (a:Option Addr) (len cap:Nat) (w:World) (hl:len<=1048576) (hr:Row w w.heap.size a len) :
  Calls prog 4 #[.slice a len cap] w fun e w'=>∃ (t:ByteArray) (z:Int),t.size<=1002/\0<=z/\z<=49/\e=.returned (.tuple #[.string t,.int .i64 z])/\Below w.heap.size w w':=by
 have HR:=hideD hr;clear hr;go_enter func4,ntmps4
 go_wp2_with fail
 refine(source_any a len cap _ hl HR.o).mono ?_;rintro e w1 ⟨rfl,hs1,hb1,hz⟩;have HS1:=hideD hs1;have HB1:=hideD hb1;have z1:=hb1.size;clear hs1 hb1 hz
 go_wp2_with fail
 refine(file6_any w.heap.size a len cap _ hl HS1.o).mono ?_;rintro e w2 ⟨t,z,ht,hz0,hz1,rfl,hs2,ha2⟩;have HB2:=hideD (ha2.below HB1.o nl z1);clear hs2 ha2
 go_wp2_with fail
 go_ret2;exact⟨t,z,ht,hz0,hz1,rfl,HB2.o⟩
def ListDraw (w:World) (e:Ending) (w':World):Prop:=∃ (z b:Int) (r:ByteArray),e=.returned (.agg #[.int .i64 z,.int .i64 b,.string r])/\r.size<=33/\Below w.heap.size w w'
theorem drawListBytes_any (a:Option Addr) (len cap:Nat) (w:World) (hl:len<=1048576) (hr:Row w w.heap.size a len) (hof:OfC) (hpc:PcC) :
  Calls prog 6 #[.slice a len cap] w fun e w'=>ListDraw w e w':=by
 have HC:=hideK (fun B W (h:Src W B a len cap)=>list7_any B a len cap W hl h hof hpc);have C0:Hid ((w.alloc (.cells #[.int .i64 0,.int .i64 0,.string ⟨#[]⟩] 26)).heap[w.heap.size]? = some (.cells #[.int .i64 0,.int .i64 0,.string ⟨#[]⟩] 26 (0,0))):=heap_alloc_new w _;have B0:Hid (Below w.heap.size w (w.alloc (.cells #[.int .i64 0,.int .i64 0,.string ⟨#[]⟩] 26))):=(Below.refl _ _).alloc nl _;have HSO:Hid (Calls _ _ _ _ _):=source_any a len cap (w.alloc (.cells #[.int .i64 0,.int .i64 0,.string ⟨#[]⟩] 26)) hl ((hr.below B0.o).mono B0.o.size)
 have hz0:(w.alloc (.cells #[.int .i64 0,.int .i64 0,.string ⟨#[]⟩] 26)).heap.size=w.heap.size+1:=by simp
 have HZ0:=hideK hz0;clear hz0 hr hof hpc;go_enter func6,ntmps6
 go_wp2_with fail
 generalize w.alloc (.cells #[.int .i64 0,.int .i64 0,.string ⟨#[]⟩] 26)=W0 at C0 B0 HSO HZ0 ⊢;generalize hB:W0.heap.size=B at HSO HZ0 ⊢;have HB:=hideK hB;clear hB;refine HSO.o.mono ?_;rintro e w1 ⟨rfl,hs1,hb1,hz1⟩;have S1:=hideK hs1;have X1:=hideK ((hb1.block _ (by have:=HZ0.o;omega)).trans C0.o);have B1:=hideK (B0.o.trans (hb1.mono (by have:=HZ0.o;omega)));have hBl:=hs1.lt;clear hs1 hb1 hz1 C0 B0 HSO
 go_wp2_with fail
 refine(HC.o _ _ S1.o).mono ?_;rintro e w2 ⟨z2,b2,r2,rfl,hr2,hsr2,ha2⟩;have X2:=hideK ((ha2.block _ (lt_rowK X1.o) (by have:=HZ0.o;omega)).trans X1.o);have B2:=hideK (ha2.below B1.o (by have:=HZ0.o;omega) (by have:=B1.o.size;omega));clear ha2 hsr2 S1 X1 B1;obtain⟨x0,x1,x2⟩:=cells3 X2.o;have ff:=fun o=>frozen_of_row w2 w.heap.size o _ _ X2.o;have s3:=set3_allD X2.o (.int .i64 z2) (.int .i64 b2) (.string r2);have B4:=hideK (((B2.o.setCell (p:=⟨w.heap.size,0,none⟩) nl (.int .i64 z2)).setCell (p:=⟨w.heap.size,1,none⟩) nl (.int .i64 b2)).setCell (p:=⟨w.heap.size,2,none⟩) nl (.string r2))
 go_wp2_with fail
 exact bodyPost_ret (v:=.agg #[.int .i64 z2,.int .i64 b2,.string r2]) (by simp[results,results6,go_sem,s3.1,s3.2.1,s3.2.2]) rfl ⟨z2,b2,r2,rfl,hr2,B4.o⟩
theorem drawListRead_any (a:Option Addr) (len cap:Nat) (w:World) (hl:len<=1048576) (hr:Row w w.heap.size a len) (hof:OfC) (hpc:PcC) :
  Calls prog 8 #[.slice a len cap] w fun e w'=>∃ t:ByteArray,t.size<=63/\e=.returned (.string t)/\Below w.heap.size w w':=by
 have HC:=hideK (fun B W (h:Src W B a len cap)=>list7_any B a len cap W hl h hof hpc);have HBS:=hideK (fun z b r W=>bytes_spec z b r W);unfold lV at HBS;have HR:=hideK hr;clear hr hof hpc;go_enter func8,ntmps8
 go_wp2_with fail
 refine(source_any a len cap _ hl HR.o).mono ?_;rintro e w1 ⟨rfl,hs1,hb1,hz⟩;have S1:=hideK hs1;have B1:=hideK hb1;have z1:=hb1.size;clear hs1 hb1 hz
 go_wp2_with fail
 refine(HC.o _ _ S1.o).mono ?_;rintro e w2 ⟨z2,b2,r2,rfl,hr2,hs2,ha2⟩;have S2:=hideK hs2;have B2:=hideK (ha2.below B1.o nl z1);have z2':w.heap.size<=w2.heap.size:=Nat.le_trans z1 ha2.size;clear ha2 hs2 S1 B1
 go_wp2_with fail
 refine(HBS.o _ _ _ _).mono ?_;rintro e w3 ⟨rfl,hb⟩;have S3:=hideK (S2.o.below hb);have B3:=hideK (B2.o.trans (hb.mono z2'));have z3:w.heap.size<=w3.heap.size:=Nat.le_trans z2' hb.size;clear hb S2 B2 HBS;have hts:(bytesL z2 b2 r2).size<=62:=bytesL_size;generalize bytesL z2 b2 r2=t at hts ⊢
 go_wp2_with fail
 refine(n_any w.heap.size a len cap 4 _ hl (by omega) S3.o).mono ?_;rintro e w4 ⟨r4,rfl,p0,p1,hs4,ho4⟩;obtain⟨j,rfl⟩:=Int.eq_ofNat_of_zero_le p0;have S4:=hideK hs4;have B4:=hideK (ho4.aft.below B3.o nl z3);have z4:w.heap.size<=w4.heap.size:=Nat.le_trans z3 ho4.aft.size;clear hs4 ho4 S3 B3
 have hj4:j=0∨j=1∨j=2∨j=3:=by omega
 clear p0 p1
 rcases hj4 with rfl|rfl|rfl|rfl
 ·go_wp2_with fail
  refine(spoil_any w.heap.size a len cap t _ hl (by omega) S4.o).mono ?_;rintro e w5 ⟨t5,ht5,rfl,hs5,ha5⟩;have B5:=hideK (ha5.below B4.o nl z4);clear hs5 ha5
  go_wp2_with fail
  go_ret;exact⟨t5,by omega,rfl,B5.o⟩
 ·have hw1:IntKind.i64.wrap ((t.size:Int)+1)=(t.size:Int)+1:=by rw[IntKind.wrap_i64];omega
  go_wp2_with fail
  refine(n_any w.heap.size a len cap ((t.size:Int)+1) _ hl (by omega) S4.o).mono ?_;rintro e w5 ⟨r5,rfl,p0,p1,hs5,ho5⟩;obtain⟨k,rfl⟩:=Int.eq_ofNat_of_zero_le p0
  have hk:k<=t.size:=by omega
  have hki:(k:Int)<=(t.size:Int):=by omega
  have B5:=hideK (ho5.aft.below B4.o nl z4)
  have HX:Hid ((t.extract 0 k).size<=63):=by unfold Hid;rw[ByteArray.size_extract];omega
  clear hs5 ho5 p0 p1
  go_wp2_with fail
  go_ret;exact⟨_,HX.o,rfl,B5.o⟩
 ·go_wp2_with fail
  go_ret;exact⟨t,by omega,rfl,B4.o⟩
 ·go_wp2_with fail
  go_ret;exact⟨t,by omega,rfl,B4.o⟩
end Dr
namespace Dr
open St (OwnS Strs)
open Kp (hideK lt_rowK)
open Ls (cells3)
end Dr
namespace Dr
open Ls (ofV oV of_spec root_size rootV)
theorem ofV_small (s:ByteArray) (size:Int):∃ z b r c,r.size<=32/\ofV s size=oV z b r c:=by
 unfold ofV
 split
 ·exact⟨_,_,_,_,by decide,rfl⟩
 ·split
  ·exact⟨_,_,_,_,Nat.le_of_eq (root_size s size),rfl⟩
  ·exact⟨_,_,_,_,by decide,rfl⟩
theorem ofC:OfC:=fun W t z ht=>(of_spec t z W (by omega)).mono fun e w' ⟨he,hb⟩=>by
 obtain⟨z',b',r',c',hr,e2⟩:=ofV_small t z;exact⟨⟨z',b',r',c',hr,by rw[he,e2]⟩,hb⟩
theorem pcC:PcC:=fun W t z ht=>(Pk.pieces_spec t z W (by omega)).mono fun e w' ⟨v,he,ho,hb⟩=>by
 refine⟨⟨v,_,he,ho,Pk.piecesR_length t z,fun s hs=>?_⟩,hb⟩;unfold Pk.piecesR at hs;obtain⟨x,_,rfl⟩:=List.mem_map.1 hs;exact Ls.pack_size x
end Dr
namespace Ls
open Gn (rd getV rt textV)
theorem read_spec (s:ByteArray) (w:World) (hs:s.size<=1048576) :
  Calls prog 14 #[.string s] w fun e w'=>e=.returned (readV s)/\Below w.heap.size w w':=by
 obtain⟨g,hg⟩:∃ g,g=w.heap.size:=⟨_,rfl⟩;have HBE:=hideL hg.symm
 have HR0:Hid ((w.alloc (.cells #[.int .i64 0,.int .i64 0,.string ⟨#[]⟩,.int .i64 0] 28)).heap[g]? = some (.cells #[.int .i64 0,.int .i64 0,.string ⟨#[]⟩,.int .i64 0] 28 (0,0))):=by rw[hg];exact heap_alloc_new w _
 have HL0:Hid (Below g w (w.alloc (.cells #[.int .i64 0,.int .i64 0,.string ⟨#[]⟩,.int .i64 0] 28))):=by rw[hg];exact(Below.refl _ _).alloc nl _
 by_cases h8:8000<s.size
 ·have HF:Hid (readV s=oV 0 0 ⟨#[]⟩ 2):=if_pos h8
  rw[HF.o];clear hg;go_enter func14,ntmps14
  go_wp2
  refine bodyPost_ret (v:=oV 0 0 ⟨#[]⟩ 2) (by simp[results,oV,results14,go_sem]) rfl ⟨rfl,?_⟩;exact(Below.refl _ _).alloc nl _
 ·have h8':decide ((8000:Int)<(s.size:Int))=false:=by simp;omega
  have HYES:=hideL (fun h=>readV_yes (s:=s) (by omega) h);have HNO:=hideL (fun h=>readV_no (s:=s) (by omega) h);generalize readV s=A at HYES HNO ⊢;have H1:=hideL (fun W=>Gn.get_spec s 0 W (by unfold maxLen;omega));have H2:=hideL (fun W=>Gn.get_spec s (rd s 0).2.1 W (by unfold maxLen;omega));have H3:=hideL (fun W=>Gn.text_spec s (rd s (rd s 0).2.1).2.1 W (by unfold maxLen;omega));rw[num_all]at H1 H2;rw[text_all]at H3;have HBI:=hideL (fun W=>bytes_spec (zR s) (bR s) (rR s) W);have HOK:Hid (okR s=(¬s.size=0/\bytesL (zR s) (bR s) (rR s)=s)):=rfl;unfold lV at HBI;generalize okR s=OK at HYES HNO HOK;unfold zR bR rR at HBI HOK HYES;generalize rt s (rd s (rd s 0).2.1).2.1=x3 at H3 HBI HOK HYES;generalize rd s (rd s 0).2.1=x2 at H2 H3 HBI HOK HYES;generalize rd s 0=x1 at H1 H2 HBI HOK HYES;obtain⟨z,p1,c1⟩:=x1;obtain⟨b,p2,c2⟩:=x2;obtain⟨r,p3,c3⟩:=x3;dsimp only at H1 H2 H3 HBI HOK HYES;go_enter func14,ntmps14
  go_wp2_with fail
  rw[<-hg];clear hg;generalize hww:w.alloc (.cells #[.int .i64 0,.int .i64 0,.string ⟨#[]⟩,.int .i64 0] 28)=w0 at HR0 HL0  ⊢;clear hww;refine(H1.o _).mono ?_;rintro e v1 ⟨rfl,hb⟩;have R1a:=hideL (blkL HR0.o hb);have L1a:=hideL (lowB HBE.o HL0.o hb);clear hb HR0 HL0;have R1:Hid ((v1.alloc (.cells #[.int .i64 z,.int .i64 p1,.int .i64 c1] 64)).heap[g]? = some (.cells #[.int .i64 0,.int .i64 0,.string ⟨#[]⟩,.int .i64 0] 28 (0,0))):=blk_alloc R1a.o _;have L1:Hid (Below g w (v1.alloc (.cells #[.int .i64 z,.int .i64 p1,.int .i64 c1] 64))):=lowB_alloc HBE.o L1a.o _;have X1_1:Hid ((v1.alloc (.cells #[.int .i64 z,.int .i64 p1,.int .i64 c1] 64)).heap[v1.heap.size]? = some (.cells #[.int .i64 z,.int .i64 p1,.int .i64 c1] 64 (0,0))):=heap_alloc_new v1 _
  go_wp2_with fail
  generalize hww:v1.alloc (.cells #[.int .i64 z,.int .i64 p1,.int .i64 c1] 64)=u1 at R1 L1  X1_1 ⊢;generalize v1.heap.size=g1 at X1_1 ⊢;clear hww R1a L1a;refine(H2.o _).mono ?_;rintro e v2 ⟨rfl,hb⟩;have R2a:=hideL (blkL R1.o hb);have L2a:=hideL (lowB HBE.o L1.o hb);have X1_2a:=hideL (blkL X1_1.o hb);clear hb R1 L1  X1_1;have R2:Hid ((v2.alloc (.cells #[.int .i64 b,.int .i64 p2,.int .i64 c2] 64)).heap[g]? = some (.cells #[.int .i64 0,.int .i64 0,.string ⟨#[]⟩,.int .i64 0] 28 (0,0))):=blk_alloc R2a.o _;have L2:Hid (Below g w (v2.alloc (.cells #[.int .i64 b,.int .i64 p2,.int .i64 c2] 64))):=lowB_alloc HBE.o L2a.o _;have X1_2:Hid ((v2.alloc (.cells #[.int .i64 b,.int .i64 p2,.int .i64 c2] 64)).heap[g1]? = some (.cells #[.int .i64 z,.int .i64 p1,.int .i64 c1] 64 (0,0))):=blk_alloc X1_2a.o _;have X2_2:Hid ((v2.alloc (.cells #[.int .i64 b,.int .i64 p2,.int .i64 c2] 64)).heap[v2.heap.size]? = some (.cells #[.int .i64 b,.int .i64 p2,.int .i64 c2] 64 (0,0))):=heap_alloc_new v2 _
  go_wp2_with fail
  generalize hww:v2.alloc (.cells #[.int .i64 b,.int .i64 p2,.int .i64 c2] 64)=u2 at R2 L2  X1_2 X2_2 ⊢;generalize v2.heap.size=g2 at X2_2 ⊢;clear hww R2a L2a  X1_2a;refine(H3.o _).mono ?_;rintro e v3 ⟨rfl,hb⟩;have R3a:=hideL (blkL R2.o hb);have L3a:=hideL (lowB HBE.o L2.o hb);have X1_3a:=hideL (blkL X1_2.o hb);have X2_3a:=hideL (blkL X2_2.o hb);clear hb R2 L2  X1_2 X2_2;have R3:Hid ((v3.alloc (.cells #[.string r,.int .i64 p3,.int .i64 c3] 67)).heap[g]? = some (.cells #[.int .i64 0,.int .i64 0,.string ⟨#[]⟩,.int .i64 0] 28 (0,0))):=blk_alloc R3a.o _;have L3:Hid (Below g w (v3.alloc (.cells #[.string r,.int .i64 p3,.int .i64 c3] 67))):=lowB_alloc HBE.o L3a.o _;have X1_3:Hid ((v3.alloc (.cells #[.string r,.int .i64 p3,.int .i64 c3] 67)).heap[g1]? = some (.cells #[.int .i64 z,.int .i64 p1,.int .i64 c1] 64 (0,0))):=blk_alloc X1_3a.o _;have X2_3:Hid ((v3.alloc (.cells #[.string r,.int .i64 p3,.int .i64 c3] 67)).heap[g2]? = some (.cells #[.int .i64 b,.int .i64 p2,.int .i64 c2] 64 (0,0))):=blk_alloc X2_3a.o _;have X3_3:Hid ((v3.alloc (.cells #[.string r,.int .i64 p3,.int .i64 c3] 67)).heap[v3.heap.size]? = some (.cells #[.string r,.int .i64 p3,.int .i64 c3] 67 (0,0))):=heap_alloc_new v3 _
  go_upto_region 6 with fail
  generalize hww:v3.alloc (.cells #[.string r,.int .i64 p3,.int .i64 c3] 67)=u3 at R3 L3 X1_3 X2_3 X3_3 ⊢;generalize v3.heap.size=g3 at X3_3 ⊢;clear hww R3a L3a X1_3a X2_3a;obtain⟨a0,a1,a2⟩:=cells3 X1_3.o;obtain⟨b0,b1,b2⟩:=cells3 X2_3.o;obtain⟨d0,d1,d2⟩:=cells3 X3_3.o;have R4:Hid ((u3.alloc (.cells #[.int .i64 z,.int .i64 b,.string r] 26)).heap[g]? = some (.cells #[.int .i64 0,.int .i64 0,.string ⟨#[]⟩,.int .i64 0] 28 (0,0))):=blk_alloc R3.o _;have X4:Hid ((u3.alloc (.cells #[.int .i64 z,.int .i64 b,.string r] 26)).heap[u3.heap.size]? = some (.cells #[.int .i64 z,.int .i64 b,.string r] 26 (0,0))):=heap_alloc_new u3 _;have L4:Hid (Below g w (u3.alloc (.cells #[.int .i64 z,.int .i64 b,.string r] 26))):=lowB_alloc HBE.o L3.o _
  go_upto_region 7 with fail
  generalize hww:u3.alloc (.cells #[.int .i64 z,.int .i64 b,.string r] 26)=u4 at R4 X4 L4 ⊢;generalize u3.heap.size=g4 at X4 ⊢;clear hww R3 L3 X1_3 X2_3 X3_3 a0 a1 a2 b0 b1 b2 d0 d1 d2;by_cases hz:s.size=0
  ·have hse:s=⟨#[]⟩:=Bk.empty_ext hz rfl
   have HA:=hideL (HNO.o (by rw[HOK.o];exact fun q=>q.1 hz));clear hz HOK HYES HNO H1 H2 H3 HBI;subst hse;obtain⟨a0,a1,a2⟩:=cells3 X4.o;obtain⟨q0,q1,q2,q3⟩:=cells4 R4.o;have ff:=fun o=>frozen_of_row u4 g o _ _ R4.o;have s4:=set4_cells R4.o (.int .i64 0) (.int .i64 0) (.string ⟨#[]⟩) (.int .i64 3);have E4:=hideL (set4_low L4.o (.int .i64 0) (.int .i64 0) (.string ⟨#[]⟩) (.int .i64 3))
   go_wp2_with fail
   refine bodyPost_ret (v:=oV 0 0 ⟨#[]⟩ 3) (by simp[results,oV,results14,go_sem,s4.1,s4.2.1,s4.2.2.1,s4.2.2.2]) rfl ⟨by rw[HA.o],?_⟩;rw[HBE.o];exact E4.o
  ·have hzl:s.toList.isEmpty=false:=by
    rw[ByteArray.toList_eq]
    cases hd:s.data.toList with
    |nil=>exact absurd (show s.size=0 by show s.data.size=0;rw[<-Array.length_toList,hd];rfl) hz
    |cons x r=>rfl
   obtain⟨a0,a1,a2⟩:=cells3 X4.o
   go_wp2_with fail
   refine(HBI.o _).mono ?_;rintro e v5 ⟨rfl,hb⟩;have R5:=hideL (blkL R4.o hb);have X5:=hideL (blkL X4.o hb);have L5:=hideL (lowB HBE.o L4.o hb);clear hb R4 X4 L4 HBI a0 a1 a2;obtain⟨a0,a1,a2⟩:=cells3 X5.o;obtain⟨q0,q1,q2,q3⟩:=cells4 R5.o;have ff:=fun o=>frozen_of_row v5 g o _ _ R5.o;generalize bytesL z b r=B at HOK ⊢;by_cases hB:B=s
   ·have HA:=hideL (HYES.o (by rw[HOK.o];exact⟨hz,hB⟩))
    have s4:=set4_cells R5.o (.int .i64 z) (.int .i64 b) (.string r) (.int .i64 0);have E4:=hideL (set4_low L5.o (.int .i64 z) (.int .i64 b) (.string r) (.int .i64 0));clear HOK HYES HNO;subst hB;(go_wp2_with fail);refine bodyPost_ret (v:=oV z b r 0) (by simp[results,oV,results14,go_sem,s4.1,s4.2.1,s4.2.2.1,s4.2.2.2]) rfl ⟨by rw[HA.o],?_⟩;rw[HBE.o];exact E4.o
   ·have hB':(B.toList==s.toList)=false:=by rw[eq_listL];exact decide_eq_false hB
    have HA:=hideL (HNO.o (by rw[HOK.o];exact fun q=>hB q.2));have s4:=set4_cells R5.o (.int .i64 0) (.int .i64 0) (.string ⟨#[]⟩) (.int .i64 3);have E4:=hideL (set4_low L5.o (.int .i64 0) (.int .i64 0) (.string ⟨#[]⟩) (.int .i64 3));clear HOK HYES HNO;(go_wp2_with fail);refine bodyPost_ret (v:=oV 0 0 ⟨#[]⟩ 3) (by simp[results,oV,results14,go_sem,s4.1,s4.2.1,s4.2.2.1,s4.2.2.2]) rfl ⟨by rw[HA.o],?_⟩;rw[HBE.o];exact E4.o
theorem readV_form (s:ByteArray):∃ z b r c,readV s=oV z b r c:=by
 unfold readV
 split
 ·exact⟨_,_,_,_,rfl⟩
 ·split<;>exact⟨_,_,_,_,rfl⟩
end Ls
end Go.Proofs.YtaejgfdkfcmjeaaGreatDoor
