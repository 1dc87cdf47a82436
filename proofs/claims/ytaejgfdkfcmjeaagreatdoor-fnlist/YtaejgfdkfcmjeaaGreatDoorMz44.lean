import Derived.Test.YtaejgfdkfcmjeaaGreatDoorMz40
import Derived.Test.YtaejgfdkfcmjeaaGreatDoorMz42
import Derived.Test.YtaejgfdkfcmjeaaGreatDoorMz36
set_option maxRecDepth 100000
set_option maxHeartbeats 8000000
namespace Go.Proofs.YtaejgfdkfcmjeaaGreatDoor
open Go.RowKit
open Go.Proofs.Tryz
namespace Tr
open St
open Sh (Vars)
theorem below2 {w w1 w2:World} (h1:Below w.heap.size w w1) (h2:Below w1.heap.size w1 w2):Below w.heap.size w w2:=h1.trans (h2.mono h1.size)
theorem treeR_yes (l:List ByteArray) (h:right l=true):treeR l=tree l:=if_pos h
theorem treeR_no (l:List ByteArray) (h:right l=false):treeR l=⟨#[]⟩:=if_neg (by rw[h];decide)
theorem treeHash_impl (l:List ByteArray) (n:Nat) (a:Option Addr) (cap B:Nat) (w:World) (hln:l.length=n) (hcap:n<=cap) (hn:n<=1048576) (hs:Strs w B a l) (hB:B<=w.heap.size) (hV:Vars w) :
  Calls prog 28 #[.slice a n cap] w fun e w'=>e=.returned (.string (treeR l))/\Below w.heap.size w w':=by
 have HR:=hideT (right_impl a cap l w B hs (by omega));rw[hln]at HR;have HS:=hideT hs;have HV:=hideT hV;clear hs hV
 cases hr:right l with
 |false =>
  have HT:=hideT (treeR_no l hr);rw[hr]at HR;go_enter func28,ntmps28
  go_wp2_with fail
  refine HR.o.mono ?_;rintro e w1 ⟨rfl,hw⟩;subst w1
  go_wp2_with fail
  go_ret;exact⟨Nu.ret_strJ HT.o.symm,Below.refl _ _⟩
 |true =>
  have HT:=hideT (treeR_yes l hr);have HY:=hideT ((right_yes l).1 hr);rw[hr]at HR;go_enter func28,ntmps28
  go_wp2_with fail
  refine HR.o.mono ?_;rintro e w1 ⟨rfl,hw⟩;subst w1
  go_wp2_with fail
  refine(tree_impl n n l a cap B _ nl hln hcap (by have:=HY.o.1;omega) HY.o.2 HS.o hB HV.o).mono ?_;rintro e w2 ⟨rfl,hb2⟩
  go_wp2_with fail
  go_ret;exact⟨Nu.ret_strJ HT.o.symm,hb2⟩
theorem treeHash_spec (l:List ByteArray) (n:Nat) (a:Option Addr) (cap B:Nat) (w:World) (hln:l.length=n) (hcap:n<=cap) (hn:n<=1048576) (hs:Strs w B a l) (hB:B<=w.heap.size) :
  Calls prog 70 #[.slice a n cap] w fun e w'=>e=.returned (.string (treeR l))/\Below w.heap.size w w':=by
 have HR:=hideT (right_spec a cap l w B hs (by omega));rw[hln]at HR;have HS:=hideT hs;clear hs;by_cases h400:400<n
 ·have HT:=hideT (treeR_no l (right_long l (by omega)))
  go_enter func70,ntmps70
  go_wp2_with fail
  go_ret;exact⟨Nu.ret_strJ HT.o.symm,Below.refl _ _⟩
 ·cases hr:right l with
  |false =>
   have HT:=hideT (treeR_no l hr);rw[hr]at HR;go_enter func70,ntmps70
   go_wp2_with fail
   refine HR.o.mono ?_;rintro e w1 ⟨rfl,hw⟩;subst w1
   go_wp2_with fail
   go_ret;exact⟨Nu.ret_strJ HT.o.symm,Below.refl _ _⟩
  |true =>
   have HT:=hideT (treeR_yes l hr);have HY:=hideT ((right_yes l).1 hr);rw[hr]at HR;go_enter func70,ntmps70
   go_wp2_with fail
   refine HR.o.mono ?_;rintro e w1 ⟨rfl,hw⟩;subst w1
   go_wp2_with fail
   refine(tree_spec n n l a cap B _ nl hln hcap (by have:=HY.o.1;omega) HY.o.2 HS.o hB).mono ?_;rintro e w2 ⟨rfl,hb2⟩
   go_wp2_with fail
   go_ret;exact⟨Nu.ret_strJ HT.o.symm,hb2⟩
def proof (l:List ByteArray) (m:Nat) (b:Bool):List ByteArray :=
 if _h:l.length<=m∨l.length<=1 then (if b=true then [] else [tree l])
 else if m<=half l.length then proof (l.take (half l.length)) m b++[tree (l.drop (half l.length))]
 else proof (l.drop (half l.length)) (m-half l.length) false++[tree (l.take (half l.length))]
termination_by l.length
decreasing_by
 ·have:=half_lt l.length (by omega)
  simp;omega
 ·have:=half_pos l.length
  simp;omega
def proofR (l:List ByteArray) (i:Int):List ByteArray:=if right l=true/\1<=i/\i<=l.length then proof l i.toNat true else []
end Tr
namespace Up
open Pk
open Se (sealV unsealV outV unseal_back fourS_size)
open Bk (blks blocksR cnt fineB)
theorem calls_some {P:Program} {f:FuncId} {args:Array Value} {w:World} {R:Ending->World->Prop} (h:Calls P f args w R):∃ e w',R e w':=by
 obtain⟨e,w',_,hr,_⟩:=h [];exact⟨e,w',hr⟩
theorem good_size {t b:ByteArray} (h:Good t b):1<=t.size/\t.size<=8000:=by
 have h1:=h.1;have h2:=h.2.1;have h3:=h.2.2
 constructor
 ·rw[h2]
  show 1<=(shortL b).toArray.size
  rw[List.size_toArray];unfold shortL;simp
 ·rw[h2]
  omega
theorem good_same (w:World) {t b c:ByteArray} (hb:Good t b) (hc:Good t c):b=c:=by
 obtain⟨h1,h2⟩:=good_size hb;obtain⟨e,w',⟨r,_,_,hr⟩,_⟩:=calls_some (openS_any t w h1 h2);rw[<-hr b hb,hr c hc]
theorem inner_same (w:World) {b c:ByteArray} (hb:b.size<=48) (hc:c.size<=48) (h:innerV b=innerV c):b=c:=by
 rcases inner_case (t:=innerV c) hb h with⟨h1,h2,h3⟩|⟨h1,h2,h3,h4⟩
 ·rcases inner_case (t:=innerV c) hc rfl with⟨k1,k2,k3⟩|⟨k1,k2,k3,k4⟩
  ·exact good_same w h1 k1
  ·omega
 ·rcases inner_case (t:=innerV c) hc rfl with⟨k1,k2,k3⟩|⟨k1,k2,k3,k4⟩
  ·omega
  ·exact h4.symm.trans k4
theorem packB_inner {b:ByteArray} (h:b.size<=48):packB b=sealV (innerV b):=if_neg (by omega)
theorem packB_size {b:ByteArray} (h:b.size<=48):(packB b).size<=b.size+5/\4<=(packB b).size:=by
 rw[packB_inner h]
 have h1:(innerV b).size<=b.size+1:=by
  unfold innerV
  split
  ·omega
  ·rw[plainV_size];exact nl
 unfold sealV;rw[if_pos (by omega),ByteArray.size_append,fourS_size];omega
theorem ansU_pack (w:World) {b:ByteArray} (h:b.size<=48):ansU (packB b)=outV b 0 0:=by
 have hi:=inner_size h
 have hu:unsealV (packB b)=outV (innerV b) 0 0:=by rw[packB_inner h];exact unseal_back _ (by omega)
 rw[ansU_yes hu];refine(ansT_read (s:=packB b) (t:=innerV b) (r:=b) (packB_inner h).symm (by omega) (packB_size h).2 (fun c hc he=>?_)).1 rfl;exact(inner_same w hc h he).symm
theorem ext_list2 (s:ByteArray) (a b:Nat):(s.extract a b).data.toList=(s.data.toList.drop a).take (b-a):=by
 rw[ByteArray.data_extract,Array.toList_extract,List.extract_eq_take_drop]
theorem ext_cat (s:ByteArray) (a b c:Nat) (h1:a<=b) (h2:b<=c):(s.extract a b).data.toList++(s.extract b c).data.toList=(s.extract a c).data.toList:=by
 rw[ext_list2,ext_list2,ext_list2]
 have e1:c-a=(b-a)+(c-b):=by omega
 rw[e1,List.take_add,List.drop_drop,show a+(b-a)=b by omega]
theorem cat_blks (s:ByteArray) (k:Nat):∀ n,cat (blks s k n)=(s.extract 0 (min (n*k) s.size)).data.toList
 |0=>by
  rw[ext_list2];simp[blks,cat]
 |n+1=>by
  have h:cat (blks s k n++[s.extract (n*k) (min (n*k+k) s.size)])=cat (blks s k n)++(s.extract (n*k) (min (n*k+k) s.size)).data.toList:=by simp[cat]
  show cat (blks s k n++[_])=_
  rw[h,cat_blks s k n,Nat.add_mul,Nat.one_mul];by_cases hl:n*k<=s.size
  ·rw[show min (n*k) s.size=n*k by omega]
   exact ext_cat s 0 (n*k) (min (n*k+k) s.size) (by omega) (by omega)
  ·rw[show min (n*k) s.size=s.size by omega,show min (n*k+k) s.size=s.size by omega,ext_list2 s (n*k),show s.size-n*k=0 by omega]
   simp
theorem cat_blocks (s:ByteArray) (size:Int) (h:fineB s.size size=true):cat (blocksR s size)=s.data.toList:=by
 have hf:=of_decide_eq_true h;obtain⟨k,rfl⟩:=Int.eq_ofNat_of_zero_le (show 0<=size by omega);unfold blocksR;rw[if_pos h,Int.toNat_natCast,cat_blks]
 have hk:s.size<=cnt s.size k*k:=by
  rcases Nat.lt_or_ge (cnt s.size k*k) s.size with q|q
  ·exact absurd ((Bk.cnt_lt (by omega)).2 q) (by omega)
  ·exact q
 rw[show min (cnt s.size k*k) s.size=s.size by omega,ext_list2];simp;rw[List.take_of_length_le];rw[Array.length_toList];exact nl
end Up
namespace Tr
open St
open Sh (Vars)
end Tr
namespace Tr
open St
open Sh (step_append_own own_empty)
theorem path_spec:∀ (m n i:Nat) (l:List ByteArray) (a:Option Addr) (cap B:Nat) (w:World),n<=m->l.length=n->1<=n->i<n->n<=cap->n<=64->(∀ j (h:j<l.length),l[j].size<=100)->Strs w B a l->B<=w.heap.size ->
  Calls prog 56 #[.slice a n cap,.int .i64 i] w fun e w'=>∃ v,e=.returned v/\OwnS w' w.heap.size v (path l i)/\Below w.heap.size w w':=by
 intro m
 induction m with
 |zero =>
  intro n i l a cap B w hm hln h1;omega
 |succ m ih =>
  intro n i l a cap B w hm hln h1 hi hcap h64 hr hs hB;obtain⟨b,off,rfl,hb,hc⟩:=hs.some (by omega);obtain⟨i0,hif,hz0,hz1,hz2⟩:=info_parts Tryz.infoS9;clear hs;by_cases hn1:n=1
  ·have HP:=hideT (path_one l i (by omega))
   subst hn1;clear hc hr ih;go_enter func56,ntmps56
   go_wp2_with fail
   go_ret;exact⟨_,rfl,by rw[HP.o];exact own_empty _ _ _ nl,(Below.refl _ _).alloc nl _⟩
  ·have hp:=half_pos n
   have hl:=half_lt n (by omega);have HPL:=hideT (path_left l i (by omega));have HPR:=hideT (path_right l i (by omega));have HLE:=hideT (path_length m);obtain⟨k,hk⟩:∃ k,k=half n:=⟨_,rfl⟩;have HH:=hideT (half_spec n w (by omega) (by omega));rw[hln,<-hk]at HPL HPR;rw[<-hk]at hp hl HH
   have TL:Hid (∀ W:World,Below w.heap.size w W->Calls prog 85 #[.slice (some ⟨b,off,none⟩) k cap] W fun e w'=>e=.returned (.string (tree (l.take k)))/\Below W.heap.size W w'):=fun W hW =>
    tree_spec k k (l.take k) (some ⟨b,off,none⟩) cap B W nl (by rw[List.length_take];omega) (by omega) (by omega) (fun j hj=>by rw[List.getElem_take];exact hr j _) ((Strs.take hb hc).after hW hB) (Nat.le_trans hB hW.size)
   have TR:Hid (∀ W:World,Below w.heap.size w W->Calls prog 85 #[.slice (some ⟨b,off+k,none⟩) (n-k) (cap-k)] W fun e w'=>e=.returned (.string (tree (l.drop k)))/\Below W.heap.size W w'):=fun W hW =>
    tree_spec (n-k) (n-k) (l.drop k) (some ⟨b,off+k,none⟩) (cap-k) B W nl (by rw[List.length_drop];omega) (by omega) (by omega) (fun j hj=>by rw[List.getElem_drop];exact hr _ _) ((Strs.drop hb hc).after hW hB) (Nat.le_trans hB hW.size)
   have PL:Hid (i<k->∀ W:World,Below w.heap.size w W->Calls prog 56 #[.slice (some ⟨b,off,none⟩) k cap,.int .i64 i] W fun e w'=>∃ v,e=.returned v/\OwnS w' W.heap.size v (path (l.take k) i)/\Below W.heap.size W w'):=fun hik W hW =>
    ih k i (l.take k) (some ⟨b,off,none⟩) cap B W (by omega) (by rw[List.length_take];omega) (by omega) hik (by omega) (by omega) (fun j hj=>by rw[List.getElem_take];exact hr j _) ((Strs.take hb hc).after hW hB) (Nat.le_trans hB hW.size)
   have PR:Hid (¬i<k->∀ W:World,Below w.heap.size w W->Calls prog 56 #[.slice (some ⟨b,off+k,none⟩) (n-k) (cap-k),.int .i64 ((i:Int)-k)] W fun e w'=>∃ v,e=.returned v/\OwnS w' W.heap.size v (path (l.drop k) (i-k))/\Below W.heap.size W w'):=fun hik W hW=>by
    have:=ih (n-k) (i-k) (l.drop k) (some ⟨b,off+k,none⟩) (cap-k) B W (by omega) (by rw[List.length_drop];omega) (by omega) (by omega) (by omega) (by omega) (fun j hj=>by rw[List.getElem_drop];exact hr _ _) ((Strs.drop hb hc).after hW hB) (Nat.le_trans hB hW.size)
    rw[show ((i-k:Nat):Int)=(i:Int)-k by omega]at this;exact this
   have i1:¬(n:Int)=1:=by omega
   have g1:(k:Int)<=cap:=by omega
   have g2:(k:Int)<=n:=by omega
   have g4:¬cap=k:=by omega
   have g5:IntKind.i64.wrap ((i:Int)-k)=(i:Int)-k:=by simp[IntKind.wrap,IntKind.bits,IntKind.signed];omega
   clear hc hr ih hk;by_cases hik:i<k
   ·have HE:=hideT (HPL.o hik)
    have hn3:(path (l.take k) i).length+1<=65:=by have:=HLE.o (l.take k) i (by rw[List.length_take];omega);rw[List.length_take]at this;omega
    have HPC:=hideT (PL.o hik);go_enter func56,ntmps56;(go_wp2_with fail);refine HH.o.mono ?_;rintro e w1 ⟨rfl,hw⟩;subst w1;(go_wp2_with fail)
    go_region_law (first|(refine step_append_own rfl (.tmp 20) (.tmp 25) 34 rfl w.heap.size 9 i0 (.string ⟨#[]⟩) 1 16 underlying34 hif hz0 hz1 hz2 rfl (by decide) v (path (l.take k) i).length ((path (l.take k) i).map Value.string) rfl (HO3.o.alloc _) ⟨w3.heap.size,0,none⟩ 1 1 [.string (tree (l.drop k))] rfl rfl (one_newS w3 _ _) (one_cellS _) (by unfold maxLen;omega) (by omega) (by have:=HB3.o.size;simp;omega) ?_;intro v' w4 hown4 hgrow;have HB4:=hideT (app_one HB3.o HB3.o.size nl HO3.o hgrow);have HO4:=hideT (OwnS.snoc hown4);clear hown4 hgrow)|(go_simp;go_at_call 56;(with_reducible refine(HPC.o _ ?_).mono ?_);(· exact(Below.refl _ _).drew);rintro e w2 ⟨v,rfl,ho2,hb2⟩;have HB2:=hideT (show Below w.heap.size w w2 from ⟨hb2.os,hb2.tape,hb2.output,hb2.size,hb2.block⟩);have HO2:=hideT (show OwnS w2 w.heap.size v (path (l.take k) i) from ho2);clear hb2 ho2)|(go_simp;go_at_call 85;(with_reducible refine(TR.o w2 HB2.o).mono ?_);rintro e w3 ⟨rfl,hb3⟩;have HB3:=hideT (HB2.o.trans (hb3.mono HB2.o.size));have HO3:=hideT (HO2.o.below hb3);clear hb3))
    all_goals (try go_wp2_with fail)
    all_goals go_ret
    all_goals exact⟨_,rfl,by rw[HE.o];exact HO4.o,HB4.o⟩
   ·have HE:=hideT (HPR.o hik)
    have hn3:(path (l.drop k) (i-k)).length+1<=65:=by have:=HLE.o (l.drop k) (i-k) (by rw[List.length_drop];omega);rw[List.length_drop]at this;omega
    have HPC:=hideT (PR.o hik);go_enter func56,ntmps56;(go_wp2_with fail);refine HH.o.mono ?_;rintro e w1 ⟨rfl,hw⟩;subst w1;(go_wp2_with fail)
    go_region_law (first|(refine step_append_own rfl (.tmp 33) (.tmp 38) 34 rfl w.heap.size 9 i0 (.string ⟨#[]⟩) 1 16 underlying34 hif hz0 hz1 hz2 rfl (by decide) v (path (l.drop k) (i-k)).length ((path (l.drop k) (i-k)).map Value.string) rfl (HO3.o.alloc _) ⟨w3.heap.size,0,none⟩ 1 1 [.string (tree (l.take k))] rfl rfl (one_newS w3 _ _) (one_cellS _) (by unfold maxLen;omega) (by omega) (by have:=HB3.o.size;simp;omega) ?_;intro v' w4 hown4 hgrow;have HB4:=hideT (app_one HB3.o HB3.o.size nl HO3.o hgrow);have HO4:=hideT (OwnS.snoc hown4);clear hown4 hgrow)|(go_simp;go_at_call 56;(with_reducible refine(HPC.o _ ?_).mono ?_);(· exact(Below.refl _ _).drew);rintro e w2 ⟨v,rfl,ho2,hb2⟩;have HB2:=hideT (show Below w.heap.size w w2 from ⟨hb2.os,hb2.tape,hb2.output,hb2.size,hb2.block⟩);have HO2:=hideT (show OwnS w2 w.heap.size v (path (l.drop k) (i-k)) from ho2);clear hb2 ho2)|(go_simp;go_at_call 85;(with_reducible refine(TL.o w2 HB2.o).mono ?_);rintro e w3 ⟨rfl,hb3⟩;have HB3:=hideT (HB2.o.trans (hb3.mono HB2.o.size));have HO3:=hideT (HO2.o.below hb3);clear hb3))
    all_goals (try go_wp2_with fail)
    all_goals go_ret
    all_goals exact⟨_,rfl,by rw[HE.o];exact HO4.o,HB4.o⟩
end Tr
namespace Tr
open St (hideT)
end Tr
namespace Up
open Pk
open Se (sealV unsealV outV unseal_spec)
open Sh (bt)
theorem list_eqP (a b:ByteArray):(a.toList==b.toList)=decide (a=b):=Se.list_eq_iff a b
theorem byte0 {t:ByteArray} (h:0<t.size):(t[0]'h).toNat=bt t 0:=by
 unfold Sh.bt;simp[h];rfl
theorem three {W:World} {g:Nat} {x y z:Value} {t:TypeId} (h:W.heap[g]? = some (.cells #[x,y,z] t (0,0))):W.cell? ⟨g,0,none⟩=some x/\W.cell? ⟨g,1,none⟩=some y/\W.cell? ⟨g,2,none⟩=some z :=
 ⟨cell_of_row W g 0 _ _ _ h,cell_of_row W g 1 _ _ _ h,cell_of_row W g 2 _ _ _ h⟩
theorem set3_cells {W:World} {g:Nat} {x y z:Value} {T:TypeId} (h:W.heap[g]? = some (.cells #[x,y,z] T (0,0))) (a b c:Value) :
  (((W.setCell ⟨g,0,none⟩ a).setCell ⟨g,1,none⟩ b).setCell ⟨g,2,none⟩ c).cell? ⟨g,0,none⟩=some a/\(((W.setCell ⟨g,0,none⟩ a).setCell ⟨g,1,none⟩ b).setCell ⟨g,2,none⟩ c).cell? ⟨g,1,none⟩=some b/\(((W.setCell ⟨g,0,none⟩ a).setCell ⟨g,1,none⟩ b).setCell ⟨g,2,none⟩ c).cell? ⟨g,2,none⟩=some c:=three (set_k3 (set_k3 (set_k3 h a).1 b).2.1 c).2.2
theorem set3_alloc {W:World} {g:Nat} {x y z:Value} {T:TypeId} (h:W.heap[g]? = some (.cells #[x,y,z] T (0,0))) (a b c:Value) (o:Obj) :
  ((((W.setCell ⟨g,0,none⟩ a).setCell ⟨g,1,none⟩ b).setCell ⟨g,2,none⟩ c).alloc o).cell? ⟨g,0,none⟩=some a/\((((W.setCell ⟨g,0,none⟩ a).setCell ⟨g,1,none⟩ b).setCell ⟨g,2,none⟩ c).alloc o).cell? ⟨g,1,none⟩=some b/\((((W.setCell ⟨g,0,none⟩ a).setCell ⟨g,1,none⟩ b).setCell ⟨g,2,none⟩ c).alloc o).cell? ⟨g,2,none⟩=some c :=
 three (blk_low (set_k3 (set_k3 (set_k3 h a).1 b).2.1 c).2.2 ((Below.refl _ _).alloc nl _))
theorem set3_low {B:Nat} {w W:World} (h:Below B w W) (a b c:Value):Below B w (((W.setCell ⟨B,0,none⟩ a).setCell ⟨B,1,none⟩ b).setCell ⟨B,2,none⟩ c):=((h.setCell (p:=⟨B,0,none⟩) nl a).setCell (p:=⟨B,1,none⟩) nl b).setCell (p:=⟨B,2,none⟩) nl c
theorem set3_lowA {B:Nat} {w W:World} (hB:w.heap.size=B) (h:Below B w W) (a b c:Value) (o:Obj):Below B w ((((W.setCell ⟨B,0,none⟩ a).setCell ⟨B,1,none⟩ b).setCell ⟨B,2,none⟩ c).alloc o):=by
 have:=set3_low h a b c
 exact this.alloc (by have:=this.size;omega) o
theorem unpack_spec (s:ByteArray) (w:World) (hs:s.size<=1048576) :
  Calls prog 77 #[.string s] w fun e w'=>e=.returned (ansU s)/\Below w.heap.size w w':=by
 obtain⟨g,hg⟩:∃ g,g=w.heap.size:=⟨_,rfl⟩;have HBE:=hideP hg.symm
 have HR0:Hid ((w.alloc (.cells #[.string ⟨#[]⟩,.int .i64 0,.int .i64 0] 67)).heap[g]? = some (.cells #[.string ⟨#[]⟩,.int .i64 0,.int .i64 0] 67 (0,0))):=by rw[hg];exact heap_alloc_new w _
 have HL0:Hid (Below g w (w.alloc (.cells #[.string ⟨#[]⟩,.int .i64 0,.int .i64 0] 67))):=by rw[hg];exact(Below.refl _ _).alloc nl _
 rcases unseal_case s with⟨t,hu,hse,htz,h4⟩|⟨c,hc0,hu⟩
 ·have HU:=hideP hu
  have HSE:=hideP hse;have HAN:=hideP (ansU_yes hu);clear hu hse;go_enter func77,ntmps77
  go_wp2_with fail
  rw[<-hg];generalize hww:w.alloc (.cells #[.string ⟨#[]⟩,.int .i64 0,.int .i64 0] 67)=w0 at HR0 HL0 ⊢;clear hww hg;refine(unseal_spec s _ (by unfold maxLen;omega)).mono ?_;rintro e w1 ⟨rfl,hb1⟩;have R1:=hideP (blk_low HR0.o hb1);have L1:=hideP (low2 HBE.o HL0.o hb1);clear hb1 HR0 HL0;rw[HU.o];unfold outV;by_cases ht0:0<t.size
  ·have ht0i:(0:Int)<(t.size:Int):=by omega
   have HB0:=hideP (byte0 ht0);generalize hx0:(t[0]'ht0).toNat=x0 at HB0;have HX0:=hideP hx0;by_cases hz:x0=0
   ·have e0:(((t[0]'ht0).toNat:Int)==0)=true:=by rw[hx0,hz];rfl
    have e1:(((t[0]'ht0).toNat:Int)==1)=false:=by rw[hx0,hz];rfl
    clear hx0;(go_wp2_with fail);have Rx:Hid ((w1.alloc (.cells #[.string t,.int .i64 0,.int .i64 0] 67)).heap[g]? = some (.cells #[.string ⟨#[]⟩,.int .i64 0,.int .i64 0] 67 (0,0))):=blk_low R1.o ((Below.refl _ _).alloc nl _);have Lx:Hid (Below g w (w1.alloc (.cells #[.string t,.int .i64 0,.int .i64 0] 67))):=low2 HBE.o L1.o ((Below.refl _ _).alloc nl _);generalize hww:w1.alloc (.cells #[.string t,.int .i64 0,.int .i64 0] 67)=wx at Rx Lx ⊢;clear hww;have Rwx:=Rx;have Lwx:=Lx;clear Rx Lx;have hrs:(t.extract 1 t.size).size<=1048576:=(by have:=ext_size t 1;omega);refine(pack_spec (t.extract 1 t.size) _ hrs).mono ?_;rintro e wp ⟨rfl,hbp⟩;have Rwp:=hideP (blk_low Rwx.o hbp);have Lwp:=hideP (low2 HBE.o Lwx.o hbp);clear hbp;obtain⟨kb,hkb⟩:∃ x,x=packB (t.extract 1 t.size):=⟨_,rfl⟩
    obtain⟨ha1,ha2⟩:=ansT_read HSE.o htz h4 (r:=t.extract 1 t.size) (fun b h1 h2=>by
       rcases inner_case h1 h2 with k|k
       ·have q1:=HB0.o;have q2:=k.2.2;omega
       ·exact k.2.2.2)
    rw[<-hkb]at ha1 ha2 ⊢;clear hkb;by_cases hk:kb=s
    ·have HQ:=hideP (ha1 hk)
     subst hk;have cc:=three Rwp.o;have ff:=fun o=>frozen_of_row wp g o _ _ Rwp.o;obtain⟨cc0,cc1,cc2⟩:=cc;have s3:=set3_cells Rwp.o (.string (t.extract 1 t.size)) (.int .i64 0) (.int .i64 0);(go_wp2_with fail);refine bodyPost_ret (v:=outV (t.extract 1 t.size) 0 0) (by simp[results,outV,results77,go_sem,s3.1,s3.2.1,s3.2.2]) rfl ⟨?_,?_⟩
     ·rw[HAN.o,HQ.o]
     ·rw[HBE.o]
      exact set3_low Lwp.o _ _ _
    ·have HQ:=hideP (ha2 hk)
     have hkl:(kb.toList==s.toList)=false:=by rw[list_eqP];exact decide_eq_false hk
     have cc:=three Rwp.o;have ff:=fun o=>frozen_of_row wp g o _ _ Rwp.o;obtain⟨cc0,cc1,cc2⟩:=cc;have s3:=set3_cells Rwp.o (.string ⟨#[]⟩) (.int .i64 0) (.int .i64 3);(go_wp2_with fail);refine bodyPost_ret (v:=outV ⟨#[]⟩ 0 3) (by simp[results,outV,results77,go_sem,s3.1,s3.2.1,s3.2.2]) rfl ⟨?_,?_⟩
     ·rw[HAN.o,HQ.o]
     ·rw[HBE.o]
      exact set3_low Lwp.o _ _ _
   ·by_cases hy:x0=1
    ·have e0:(((t[0]'ht0).toNat:Int)==0)=false:=by rw[hx0,hy];rfl
     have e1:(((t[0]'ht0).toNat:Int)==1)=true:=by rw[hx0,hy];rfl
     clear hx0;(go_wp2_with fail);have Rx:Hid ((w1.alloc (.cells #[.string t,.int .i64 0,.int .i64 0] 67)).heap[g]? = some (.cells #[.string ⟨#[]⟩,.int .i64 0,.int .i64 0] 67 (0,0))):=blk_low R1.o ((Below.refl _ _).alloc nl _);have Lx:Hid (Below g w (w1.alloc (.cells #[.string t,.int .i64 0,.int .i64 0] 67))):=low2 HBE.o L1.o ((Below.refl _ _).alloc nl _);generalize hww:w1.alloc (.cells #[.string t,.int .i64 0,.int .i64 0] 67)=wx at Rx Lx ⊢;clear hww;have Rwx:=Rx;have Lwx:=Lx;clear Rx Lx;refine(openS_any t wx (by omega) (by omega)).mono ?_;rintro e wo ⟨⟨r,rfl,hrz,hro⟩,hbo⟩;have Rwo:=hideP (blk_low Rwx.o hbo);have Lwo:=hideP (low2 HBE.o Lwx.o hbo);have HRO:=hideP hro;clear hbo hro;(go_wp2_with fail);have hrs:(r).size<=1048576:=(by omega);refine(pack_spec r _ hrs).mono ?_;rintro e wp ⟨rfl,hbp⟩;have Rwp:=hideP (blk_low Rwo.o hbp);have Lwp:=hideP (low2 HBE.o Lwo.o hbp);clear hbp;obtain⟨kb,hkb⟩:∃ x,x=packB r:=⟨_,rfl⟩
     obtain⟨ha1,ha2⟩:=ansT_read HSE.o htz h4 (r:=r) (fun b h1 h2=>by
        rcases inner_case h1 h2 with k|k
        ·exact HRO.o b k.1
        ·have q1:=HB0.o;have q2:=k.2.2.1;omega)
     rw[<-hkb]at ha1 ha2 ⊢;clear hkb;by_cases hk:kb=s
     ·have HQ:=hideP (ha1 hk)
      subst hk;have cc:=three Rwp.o;have ff:=fun o=>frozen_of_row wp g o _ _ Rwp.o;obtain⟨cc0,cc1,cc2⟩:=cc;have s3:=set3_cells Rwp.o (.string (r)) (.int .i64 0) (.int .i64 0);(go_wp2_with fail);refine bodyPost_ret (v:=outV r 0 0) (by simp[results,outV,results77,go_sem,s3.1,s3.2.1,s3.2.2]) rfl ⟨?_,?_⟩
      ·rw[HAN.o,HQ.o]
      ·rw[HBE.o]
       exact set3_low Lwp.o _ _ _
     ·have HQ:=hideP (ha2 hk)
      have hkl:(kb.toList==s.toList)=false:=by rw[list_eqP];exact decide_eq_false hk
      have cc:=three Rwp.o;have ff:=fun o=>frozen_of_row wp g o _ _ Rwp.o;obtain⟨cc0,cc1,cc2⟩:=cc;have s3:=set3_cells Rwp.o (.string ⟨#[]⟩) (.int .i64 0) (.int .i64 3);(go_wp2_with fail);refine bodyPost_ret (v:=outV ⟨#[]⟩ 0 3) (by simp[results,outV,results77,go_sem,s3.1,s3.2.1,s3.2.2]) rfl ⟨?_,?_⟩
      ·rw[HAN.o,HQ.o]
      ·rw[HBE.o]
       exact set3_low Lwp.o _ _ _
    ·have e0:(((t[0]'ht0).toNat:Int)==0)=false:=by rw[hx0,beq_eq_false_iff_ne];omega
     have e1:(((t[0]'ht0).toNat:Int)==1)=false:=by rw[hx0,beq_eq_false_iff_ne];omega
     clear hx0;(go_wp2_with fail);have Rx:Hid ((w1.alloc (.cells #[.string t,.int .i64 0,.int .i64 0] 67)).heap[g]? = some (.cells #[.string ⟨#[]⟩,.int .i64 0,.int .i64 0] 67 (0,0))):=blk_low R1.o ((Below.refl _ _).alloc nl _);have Lx:Hid (Below g w (w1.alloc (.cells #[.string t,.int .i64 0,.int .i64 0] 67))):=low2 HBE.o L1.o ((Below.refl _ _).alloc nl _);generalize hww:w1.alloc (.cells #[.string t,.int .i64 0,.int .i64 0] 67)=wx at Rx Lx ⊢;clear hww;have Rwx:=Rx;have Lwx:=Lx;clear Rx Lx;have hrs:(⟨#[]⟩:ByteArray).size<=1048576:=(by decide);refine(pack_spec ⟨#[]⟩ _ hrs).mono ?_;rintro e wp ⟨rfl,hbp⟩;have Rwp:=hideP (blk_low Rwx.o hbp);have Lwp:=hideP (low2 HBE.o Lwx.o hbp);clear hbp;obtain⟨kb,hkb⟩:∃ x,x=packB ⟨#[]⟩:=⟨_,rfl⟩
     obtain⟨ha1,ha2⟩:=ansT_read HSE.o htz h4 (r:=⟨#[]⟩) (fun b h1 h2=>by
        rcases inner_case h1 h2 with k|k
        ·have q1:=HB0.o;have q2:=k.2.2;omega
        ·have q1:=HB0.o;have q2:=k.2.2.1;omega)
     rw[<-hkb]at ha1 ha2 ⊢;clear hkb;by_cases hk:kb=s
     ·have HQ:=hideP (ha1 hk)
      subst hk;have cc:=three Rwp.o;have ff:=fun o=>frozen_of_row wp g o _ _ Rwp.o;obtain⟨cc0,cc1,cc2⟩:=cc;have s3:=set3_cells Rwp.o (.string (⟨#[]⟩)) (.int .i64 0) (.int .i64 0);(go_wp2_with fail);refine bodyPost_ret (v:=outV ⟨#[]⟩ 0 0) (by simp[results,outV,results77,go_sem,s3.1,s3.2.1,s3.2.2]) rfl ⟨?_,?_⟩
      ·rw[HAN.o,HQ.o]
      ·rw[HBE.o]
       exact set3_low Lwp.o _ _ _
     ·have HQ:=hideP (ha2 hk)
      have hkl:(kb.toList==s.toList)=false:=by rw[list_eqP];exact decide_eq_false hk
      have cc:=three Rwp.o;have ff:=fun o=>frozen_of_row wp g o _ _ Rwp.o;obtain⟨cc0,cc1,cc2⟩:=cc;have s3:=set3_cells Rwp.o (.string ⟨#[]⟩) (.int .i64 0) (.int .i64 3);(go_wp2_with fail);refine bodyPost_ret (v:=outV ⟨#[]⟩ 0 3) (by simp[results,outV,results77,go_sem,s3.1,s3.2.1,s3.2.2]) rfl ⟨?_,?_⟩
      ·rw[HAN.o,HQ.o]
      ·rw[HBE.o]
       exact set3_low Lwp.o _ _ _
  ·have ht0i:¬(0:Int)<(t.size:Int):=by omega
   go_wp2_with fail
   have Rx:Hid ((w1.alloc (.cells #[.string t,.int .i64 0,.int .i64 0] 67)).heap[g]? = some (.cells #[.string ⟨#[]⟩,.int .i64 0,.int .i64 0] 67 (0,0))):=blk_low R1.o ((Below.refl _ _).alloc nl _);have Lx:Hid (Below g w (w1.alloc (.cells #[.string t,.int .i64 0,.int .i64 0] 67))):=low2 HBE.o L1.o ((Below.refl _ _).alloc nl _);generalize hww:w1.alloc (.cells #[.string t,.int .i64 0,.int .i64 0] 67)=wx at Rx Lx ⊢;clear hww;have Rwx:=Rx;have Lwx:=Lx;clear Rx Lx;have hrs:(⟨#[]⟩:ByteArray).size<=1048576:=(by decide);refine(pack_spec ⟨#[]⟩ _ hrs).mono ?_;rintro e wp ⟨rfl,hbp⟩;have Rwp:=hideP (blk_low Rwx.o hbp);have Lwp:=hideP (low2 HBE.o Lwx.o hbp);clear hbp;obtain⟨kb,hkb⟩:∃ x,x=packB ⟨#[]⟩:=⟨_,rfl⟩
   obtain⟨ha1,ha2⟩:=ansT_read HSE.o htz h4 (r:=⟨#[]⟩) (fun b h1 h2=>by
      rcases inner_case h1 h2 with k|k
      ·exact absurd k.2.1 ht0
      ·exact absurd k.2.1 ht0)
   rw[<-hkb]at ha1 ha2 ⊢;clear hkb;by_cases hk:kb=s
   ·have HQ:=hideP (ha1 hk)
    subst hk;have cc:=three Rwp.o;have ff:=fun o=>frozen_of_row wp g o _ _ Rwp.o;obtain⟨cc0,cc1,cc2⟩:=cc;have s3:=set3_cells Rwp.o (.string (⟨#[]⟩)) (.int .i64 0) (.int .i64 0);(go_wp2_with fail);refine bodyPost_ret (v:=outV ⟨#[]⟩ 0 0) (by simp[results,outV,results77,go_sem,s3.1,s3.2.1,s3.2.2]) rfl ⟨?_,?_⟩
    ·rw[HAN.o,HQ.o]
    ·rw[HBE.o]
     exact set3_low Lwp.o _ _ _
   ·have HQ:=hideP (ha2 hk)
    have hkl:(kb.toList==s.toList)=false:=by rw[list_eqP];exact decide_eq_false hk
    have cc:=three Rwp.o;have ff:=fun o=>frozen_of_row wp g o _ _ Rwp.o;obtain⟨cc0,cc1,cc2⟩:=cc;have s3:=set3_cells Rwp.o (.string ⟨#[]⟩) (.int .i64 0) (.int .i64 3);(go_wp2_with fail);refine bodyPost_ret (v:=outV ⟨#[]⟩ 0 3) (by simp[results,outV,results77,go_sem,s3.1,s3.2.1,s3.2.2]) rfl ⟨?_,?_⟩
    ·rw[HAN.o,HQ.o]
    ·rw[HBE.o]
     exact set3_low Lwp.o _ _ _
 ·have HAN:=hideP (ansU_no hc0 hu)
  have HU:=hideP hu
  have hc':(c != 0)=true:=by simp;exact hc0
  clear hu hc0;go_enter func77,ntmps77
  go_wp2_with fail
  rw[<-hg];generalize hww:w.alloc (.cells #[.string ⟨#[]⟩,.int .i64 0,.int .i64 0] 67)=w0 at HR0 HL0 ⊢;clear hww hg;refine(unseal_spec s _ (by unfold maxLen;omega)).mono ?_;rintro e w1 ⟨rfl,hb1⟩;have R1:=hideP (blk_low HR0.o hb1);have L1:=hideP (low2 HBE.o HL0.o hb1);clear hb1 HR0 HL0;rw[HU.o];unfold outV;obtain⟨cc0,cc1,cc2⟩:=three R1.o;have ff:=fun o=>frozen_of_row w1 g o _ _ R1.o;have s3:=fun o=>set3_alloc R1.o (.string ⟨#[]⟩) (.int .i64 0) (.int .i64 c) o;have HGW:Hid (g<w1.heap.size):=(Array.getElem?_eq_some_iff.1 R1.o).1;have hgw:=HGW.o
  go_wp2_with fail
  refine bodyPost_ret (v:=outV ⟨#[]⟩ 0 c) (by simp[results,outV,results77,go_sem,(s3 _).1,(s3 _).2.1,(s3 _).2.2]) rfl ⟨?_,?_⟩
  ·rw[HAN.o]
  ·rw[HBE.o]
   exact set3_lowA HBE.o L1.o _ _ _ _
end Up
namespace Up
open Pk
theorem eq_nil (tid:TypeId) (pv:Value) (u:World):Sem.run prog (binOp BinOp.eql 85 .nilIface (.iface tid pv)) u=.ok (.bool false) u:=by kernel_rfl
theorem is_nil (tid:TypeId) (pv:Value) (w:World) :
  Calls prog 76 #[.nilIface,.iface tid pv] w fun e w'=>e=.returned (.bool false)/\w'=w:=by
 have heq:=eq_nil tid pv;go_enter func76,ntmps76
 go_wp2
 go_ret;exact⟨rfl,rfl⟩
end Up
namespace Se
end Se
namespace fnExactUnseal
end fnExactUnseal
end Go.Proofs.YtaejgfdkfcmjeaaGreatDoor
