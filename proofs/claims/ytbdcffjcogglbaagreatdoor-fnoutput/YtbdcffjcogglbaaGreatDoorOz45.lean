import Derived.Test.YtbdcffjcogglbaaGreatDoorOz38
set_option maxRecDepth 100000
set_option maxHeartbeats 8000000
namespace Go.Proofs.YtbdcffjcogglbaaGreatDoor
open Go.RowKit
open Go.Proofs.Tryz
namespace Tr
open St
open Sh (Vars nodeV nodeV_size nodeR nodeR_yes node_impl)
def Climbs (w0:World) (f:Value) (φ:ByteArray->ByteArray):Prop :=
 ∃ k cap,f=.func (.func k) #[] cap/\(∀ args w,(callFunc k args).run prog w=.ok (.enter k args) w)/\∀ (node:ByteArray) (w:World),node.size=32->Below w0.heap.size w0 w->Vars w ->
  Calls prog k (#[.string node]++cap) w fun e w'=>e=.returned (.string (φ node))/\Below w.heap.size w w'
theorem Climbs.later {w w':World} {f:Value} {φ:ByteArray->ByteArray} (h:Climbs w f φ) (b:Below w.heap.size w w'):Climbs w' f φ:=by
 obtain⟨k,cap,hf,he,hc⟩:=h;exact⟨k,cap,hf,he,fun node W hn hW hV=>hc node W hn (below2 b hW) hV⟩
theorem stay_any (w0:World):Climbs w0 (.func (.func 145) #[] #[]) (fun x=>x):=by
 refine⟨145,#[],rfl,enters_of func145 (by kernel_rfl) rfl,fun node w hn hb hV=>?_⟩
 show Calls prog 145 #[.string node] w _
 clear hV hb hn;go_enter func145,ntmps145
 go_wp2_with fail
 go_ret;exact⟨rfl,Below.refl _ _⟩
theorem right_call (node side:ByteArray) (k g1 g2:Nat) (cap:Array Value) (φ:ByteArray->ByteArray) (w:World) (hn:node.size=32) (hs:side.size=32) (hV:Vars w)
  (he:∀ args w,(callFunc k args).run prog w=.ok (.enter k args) w) (c1:w.cell? ⟨g1,0,none⟩=some (.func (.func k) #[] cap)) (c2:w.cell? ⟨g2,0,none⟩=some (.string side))
  (H:∀ (x:ByteArray) (W:World),x.size=32->Below w.heap.size w W->Vars W->Calls prog k (#[.string x]++cap) W fun e w'=>e=.returned (.string (φ x))/\Below W.heap.size W w') :
  Calls prog 178 #[.string node,.pointer (some ⟨g1,0,none⟩),.pointer (some ⟨g2,0,none⟩)] w fun e w'=>e=.returned (.string (φ (nodeV node side)))/\Below w.heap.size w w':=by
 have HH:=hideT H;have HV:=hideT hV;have hv2:=hV.two;have HN:=hideT (nodeR_yes node side hn hs);have HG:=hideT (World.block_lt_of_cell? w _ c1);have HC1:=hideT c1;clear H hV;go_enter func178,ntmps178
 go_wp2_with fail
 go_region_with (first|(go_at_call 65;(with_reducible refine(node_impl node side _ ?_).mono ?_);(· exact HV.o);rw[HN.o];rintro e w1 ⟨rfl,hb1⟩;have HB1:=hideT (show Below w.heap.size w w1 from ⟨hb1.os,hb1.tape,hb1.output,hb1.size,hb1.block⟩);have c1b:=(HB1.o.cell (p:=⟨g1,0,none⟩) HG.o).trans HC1.o;clear hb1)|((with_reducible refine(HH.o (nodeV node side) w1 ?_ HB1.o ?_).mono ?_);(· exact nodeV_size _ _);(· exact HV.o.below HB1.o hv2);rintro e w2 ⟨rfl,hb2⟩;have HB2:=hideT (below2 HB1.o hb2);clear hb2))
 all_goals (try go_wp2_with fail)
 all_goals go_ret
 all_goals exact⟨rfl,HB2.o⟩
theorem left_call (node side:ByteArray) (k g1 g2:Nat) (cap:Array Value) (φ:ByteArray->ByteArray) (w:World) (hn:node.size=32) (hs:side.size=32) (hV:Vars w)
  (he:∀ args w,(callFunc k args).run prog w=.ok (.enter k args) w) (c1:w.cell? ⟨g1,0,none⟩=some (.func (.func k) #[] cap)) (c2:w.cell? ⟨g2,0,none⟩=some (.string side))
  (H:∀ (x:ByteArray) (W:World),x.size=32->Below w.heap.size w W->Vars W->Calls prog k (#[.string x]++cap) W fun e w'=>e=.returned (.string (φ x))/\Below W.heap.size W w') :
  Calls prog 179 #[.string node,.pointer (some ⟨g1,0,none⟩),.pointer (some ⟨g2,0,none⟩)] w fun e w'=>e=.returned (.string (φ (nodeV side node)))/\Below w.heap.size w w':=by
 have HH:=hideT H;have HV:=hideT hV;have hv2:=hV.two;have HN:=hideT (nodeR_yes side node hs hn);have HG:=hideT (World.block_lt_of_cell? w _ c1);have HC1:=hideT c1;clear H hV;go_enter func179,ntmps179
 go_wp2_with fail
 go_region_with (first|(go_at_call 65;(with_reducible refine(node_impl side node _ ?_).mono ?_);(· exact HV.o);rw[HN.o];rintro e w1 ⟨rfl,hb1⟩;have HB1:=hideT (show Below w.heap.size w w1 from ⟨hb1.os,hb1.tape,hb1.output,hb1.size,hb1.block⟩);have c1b:=(HB1.o.cell (p:=⟨g1,0,none⟩) HG.o).trans HC1.o;clear hb1)|((with_reducible refine(HH.o (nodeV side node) w1 ?_ HB1.o ?_).mono ?_);(· exact nodeV_size _ _);(· exact HV.o.below HB1.o hv2);rintro e w2 ⟨rfl,hb2⟩;have HB2:=hideT (below2 HB1.o hb2);clear hb2))
 all_goals (try go_wp2_with fail)
 all_goals go_ret
 all_goals exact⟨rfl,HB2.o⟩
theorem joinRight_any (side:ByteArray) (f:Value) (φ:ByteArray->ByteArray) (w:World) (hs:side.size=32) (h:Climbs w f φ) :
  Calls prog 147 #[.string side,f] w fun e w'=>∃ g,e=.returned g/\Climbs w' g (fun x=>φ (nodeV x side))/\Below w.heap.size w w':=by
 obtain⟨k,cap,rfl,he,hc⟩:=h;have HE:=hideT he;have HC:=hideT hc;clear he hc;go_enter func147,ntmps147
 go_wp2_with fail
 go_ret;refine⟨_,rfl,⟨178,_,rfl,enters_of func178 (by kernel_rfl) rfl,fun node W hn hW hV=>?_⟩,((Below.refl _ _).alloc nl _).alloc (by simp) _⟩;have hsz:=hW.size;have hb:Below w.heap.size w W:=below2 (((Below.refl _ _).alloc nl _).alloc (by simp) _) hW;have c1:=hW.cell (p:=⟨w.heap.size+1,0,none⟩) (by simp);have c2:=hW.cell (p:=⟨w.heap.size,0,none⟩) (by simp;omega);refine right_call node side k (w.heap.size+1) w.heap.size cap φ W hn hs hV HE.o ?_ ?_ (fun x W' hx hW' hV'=>HC.o x W' hx (below2 hb hW') hV')
 ·rw[c1]
  simp
 ·rw[c2]
  simp
theorem joinLeft_any (side:ByteArray) (f:Value) (φ:ByteArray->ByteArray) (w:World) (hs:side.size=32) (h:Climbs w f φ) :
  Calls prog 148 #[.string side,f] w fun e w'=>∃ g,e=.returned g/\Climbs w' g (fun x=>φ (nodeV side x))/\Below w.heap.size w w':=by
 obtain⟨k,cap,rfl,he,hc⟩:=h;have HE:=hideT he;have HC:=hideT hc;clear he hc;go_enter func148,ntmps148
 go_wp2_with fail
 go_ret;refine⟨_,rfl,⟨179,_,rfl,enters_of func179 (by kernel_rfl) rfl,fun node W hn hW hV=>?_⟩,((Below.refl _ _).alloc nl _).alloc (by simp) _⟩;have hsz:=hW.size;have hb:Below w.heap.size w W:=below2 (((Below.refl _ _).alloc nl _).alloc (by simp) _) hW;have c1:=hW.cell (p:=⟨w.heap.size+1,0,none⟩) (by simp);have c2:=hW.cell (p:=⟨w.heap.size,0,none⟩) (by simp;omega);refine left_call node side k (w.heap.size+1) w.heap.size cap φ W hn hs hV HE.o ?_ ?_ (fun x W' hx hW' hV'=>HC.o x W' hx (below2 hb hW') hV')
 ·rw[c1]
  simp
 ·rw[c2]
  simp
end Tr
namespace Tr
open St
open Sh (Vars nodeV)
theorem take_last (p:List ByteArray) (m:Nat) (h:1<=m) (hm:m<=p.length):p.take m=p.take (m-1)++[p[m-1]]:=by
 have:=List.take_append_getElem (l:=p) (i:=m-1) (by omega)
 rw[this,show m-1+1=m by omega]
theorem climbFrom_any (n0 i0:Nat) (p:List ByteArray) (a:Option Addr) (cap B:Nat) (w:World) (hin:i0<n0) (hn:n0<9223372036854775808) (hp:p.length<=1048576) (hcap:p.length<=cap) (hw:∀ j (h:j<p.length),p[j].size=32) (hs:Strs w B a p) (hB:B<=w.heap.size) :
  Calls prog 110 #[.int .i64 i0,.int .i64 n0,.slice a p.length cap] w fun e w'=>Below w.heap.size w w'/\((∃ f φ,e=.returned (.tuple #[f,.bool true])/\Climbs w' f φ/\∀ h,incl n0 i0 p h=some (φ h))∨(∃ f,e=.returned (.tuple #[f,.bool false])/\∀ h,incl n0 i0 p h=none)):=by
 have HS:=hideT hs;have HW:=hideT hw;clear hs hw;obtain⟨m0,hm0⟩:∃ m0,m0=p.length:=⟨_,rfl⟩;have HM:=hideT hm0;rw[<-hm0]at hp hcap ⊢;clear hm0;go_enter func110,ntmps110
 go_wp2_with fail
 go_loopw [0,1,2,8] (fun iv nv pv uv wr=>∃ (i n m c:Nat) (φ:ByteArray->ByteArray),iv=.int .i64 i/\nv=.int .i64 n/\pv=.slice a m c/\i<n/\n<=n0/\m<=m0/\m<=c/\Climbs wr uv φ/\(∀ h,incl n0 i0 p h=(incl n i (p.take m) h).map φ)/\Below w.heap.size w wr) (fun _ nv _ _ _=>(intOf nv).toNat)
 case atStart =>
  refine⟨i0,n0,m0,cap,fun x=>x,rfl,rfl,rfl,hin,nl,nl,hcap,stay_any w,fun h=>?_,Below.refl _ _⟩;rw[HM.o,List.take_length,Option.map_id']
 case round =>
  obtain⟨i,n,m,c,φ,rfl,rfl,rfl,hi,hn0,hm,hmc,hcl,hinc,hbel⟩:=hrel;have HB:=hideT hbel;have HCL:=hideT hcl;have HI:=hideT hinc;clear hbel hcl hinc;by_cases h1:n<=1
  ·obtain rfl:n=1:=by omega
   obtain rfl:i=0:=by omega
   by_cases hm0:m=0
   ·subst hm0
    have HE:Hid (∀ h,incl n0 i0 p h=some (φ h)):=fun h=>by
     rw[HI.o h,incl_one];rfl
    (go_wp2_with fail);go_ret2;exact⟨HB.o,.inl ⟨_,φ,rfl,HCL.o,HE.o⟩⟩
   ·have HE:Hid (∀ h,incl n0 i0 p h=none):=fun h=>by
     rw[HI.o h,incl_one,if_neg (by
      intro he;have h2:=congrArg List.length he;rw[List.length_take,List.length_nil]at h2;have h3:=HM.o
      omega)]
     rfl
    have g0:((m:Int)==0)=false:=by simp;omega
    (go_wp2_with fail);go_ret2;exact⟨HB.o,.inr ⟨_,rfl,HE.o⟩⟩
  ·have g1:1<(n:Int):=by omega
   by_cases hm0:m=0
   ·subst hm0
    have HE:Hid (∀ h,incl n0 i0 p h=none):=fun h=>by
     rw[HI.o h,List.take_zero,incl_none n i h (by omega)];rfl
    (go_wp2_with fail);go_ret2;exact⟨HB.o,.inr ⟨_,rfl,HE.o⟩⟩
   ·have g0:¬(m:Int)=0:=by omega
    have hml:m-1<p.length:=by have:=HM.o;omega
    obtain⟨b,off,rfl,hb,hc⟩:=(HS.o.after HB.o hB).some (by omega);have ci:=hc (m-1) hml;have HSZ:=hideT (HW.o (m-1) hml);have HTL:=hideT (take_last p m (by omega) (by have:=HM.o;omega));have HIL:=hideT (fun (s h:ByteArray) (hik:i<half n)=>incl_left n i (p.take (m-1)) s h (by omega) hik);have HIR:=hideT (fun (s h:ByteArray) (hik:¬i<half n)=>incl_right n i (p.take (m-1)) s h (by omega) hik hi);obtain⟨s,hse⟩:∃ s,s=p[m-1]:=⟨_,rfl⟩;rw[<-hse]at ci HSZ HTL;clear hc hse;have hp2:=half_pos n;have hl2:=half_lt n (by omega);(go_wp2_with fail);refine(cutLast_any b off m c s wr (by omega) (by omega) hmc ci).mono ?_;rintro e w1 ⟨rfl,hb1⟩;have HB1:=hideT (HB.o.trans (hb1.mono HB.o.size));have HCL1:=hideT (HCL.o.later hb1);clear hb1 ci;(go_wp2_with fail);refine(half_impl n w1 (by omega) (by omega)).mono ?_;rintro e w2 ⟨rfl,hw2⟩;subst w2;obtain⟨k,hk⟩:∃ k,k=half n:=⟨_,rfl⟩;rw[<-hk]at hp2 hl2 HIL HIR ⊢;clear hk;by_cases hik:i<k
    ·go_wp2_with fail
     refine(joinRight_any s _ φ w1 HSZ.o HCL1.o).mono ?_;rintro e w3 ⟨g,rfl,hg3,hb3⟩;have HB3:=hideT (HB1.o.trans (hb3.mono HB1.o.size));have HG:=hideT hg3;clear hb3 hg3;(go_wp2_with fail)
     go_roundw
     case rel =>
      refine⟨i,k,m-1,m-1,_,rfl,rfl,rfl,hik,by omega,by omega,nl,HG.o,fun h=>?_,HB3.o⟩;rw[HI.o h,HTL.o,HIL.o s h hik,Option.map_map];rfl
     case measure=>simp[intOf];omega
    ·go_wp2_with fail
     refine(joinLeft_any s _ φ w1 HSZ.o HCL1.o).mono ?_;rintro e w3 ⟨g,rfl,hg3,hb3⟩;have HB3:=hideT (HB1.o.trans (hb3.mono HB1.o.size));have HG:=hideT hg3;clear hb3 hg3;(go_wp2_with fail)
     go_roundw
     case rel =>
      refine⟨i-k,n-k,m-1,m-1,_,by go_num,by go_num,rfl,by omega,by omega,by omega,nl,HG.o,fun h=>?_,HB3.o⟩;rw[HI.o h,HTL.o,HIR.o s h hik,Option.map_map];rfl
     case measure=>simp[intOf];omega
theorem str_eq (a b:ByteArray):(a.toList==b.toList)=decide (a=b):=by
 rw[ByteArray.toList_eq,ByteArray.toList_eq];by_cases h:a=b
 ·subst h
  simp
 ·rw[decide_eq_false h]
  have:¬a.data.toList=b.data.toList:=fun e=>h (by
   cases a
   cases b
   simp at e
   rw[e])
  simpa using this
def inclB (leaf:ByteArray) (i n:Int) (p:List ByteArray) (root:ByteArray):Bool :=
 decide (leaf.size=32) && decide (root.size=32) && (decide (p.length<=63) && wide p) && decide (0<=i) && decide (i<n) && decide (incl n.toNat i.toNat p leaf=some root)
theorem inclB_leaf (leaf:ByteArray) (i n:Int) (p:List ByteArray) (root:ByteArray) (h:¬leaf.size=32):inclB leaf i n p root=false:=by simp[inclB,h]
theorem inclB_root (leaf:ByteArray) (i n:Int) (p:List ByteArray) (root:ByteArray) (h:¬root.size=32):inclB leaf i n p root=false:=by simp[inclB,h]
theorem inclB_path (leaf:ByteArray) (i n:Int) (p:List ByteArray) (root:ByteArray) (h:(decide (p.length<=63) && wide p)=false):inclB leaf i n p root=false:=by simp only[inclB,h];simp
theorem inclB_low (leaf:ByteArray) (i n:Int) (p:List ByteArray) (root:ByteArray) (h:i<0):inclB leaf i n p root=false:=by simp[inclB,show ¬0<=i by omega]
theorem inclB_high (leaf:ByteArray) (i n:Int) (p:List ByteArray) (root:ByteArray) (h:¬i<n):inclB leaf i n p root=false:=by simp[inclB,h]
theorem inclB_in (leaf:ByteArray) (i n:Nat) (p:List ByteArray) (root:ByteArray) (h1:leaf.size=32) (h2:root.size=32) (h3:(decide (p.length<=63) && wide p)=true) (h:i<n):inclB leaf i n p root=decide (incl n i p leaf=some root):=by
 simp only[inclB,h1,h2,h3];simp[h]
theorem incl_impl (leaf root:ByteArray) (i n:Int) (p:List ByteArray) (a:Option Addr) (cap B:Nat) (w:World) (hn:n<9223372036854775808) (hp:p.length<=1048576) (hcap:p.length<=cap) (hs:Strs w B a p) (hB:B<=w.heap.size) (hV:Vars w) :
  Calls prog 74 #[.string leaf,.int .i64 i,.int .i64 n,.slice a p.length cap,.string root] w fun e w'=>e=.returned (.bool (inclB leaf i n p root))/\Below w.heap.size w w':=by
 have HD:=hideT (digs_impl a cap p 63 w B hs hp);have HCF:=hideT (fun (n' i':Nat) h1 h2 h3=>climbFrom_any n' i' p a cap B w h1 h2 hp hcap h3 hs hB);have HV:=hideT hV;have hv2:=hV.two;have HPath:=hideT (inclB_path leaf i n p root);have HIn:=hideT (inclB_in leaf);have HWide:=hideT ((wide_yes p).1);clear hs hV;by_cases h1:leaf.size=32
 ·by_cases h2:root.size=32
  ·cases h3:(decide (p.length<=63) && wide p) with
   |false =>
    have HF:=hideT (HPath.o h3);rw[h3]at HD;clear h3;clear HCF;generalize p.length=m at hp hcap HD ⊢;go_enter func74,ntmps74;(go_wp2_with fail);refine HD.o.mono ?_;rintro e w1 ⟨rfl,hw⟩;subst w1;(go_wp2_with fail);go_ret;exact⟨ret_bool HF.o.symm,Below.refl _ _⟩
   |true =>
    have HT:=hideT h3
    have HW2:Hid (wide p=true):=by
     unfold Hid;rw[Bool.and_eq_true]at h3;exact h3.2
    rw[h3]at HD;clear h3;by_cases hi0:i<0
    ·have HF:=hideT (inclB_low leaf i n p root hi0)
     clear HCF;generalize p.length=m at hp hcap HD ⊢;go_enter func74,ntmps74;(go_wp2_with fail);refine HD.o.mono ?_;rintro e w1 ⟨rfl,hw⟩;subst w1;(go_wp2_with fail);go_ret;exact⟨ret_bool HF.o.symm,Below.refl _ _⟩
    ·by_cases hin:i<n
     ·obtain⟨i',rfl⟩:∃ k:Nat,i=k:=⟨i.toNat,by omega⟩
      obtain⟨n',rfl⟩:∃ k:Nat,n=k:=⟨n.toNat,by omega⟩;have HF:=hideT (HIn.o i' n' p root h1 h2 HT.o (by omega));have HC:=hideT (HCF.o n' i' (by omega) (by omega) (HWide.o HW2.o));generalize p.length=m at hp hcap HD HC ⊢;have g1:¬(n':Int)<=i':=(by omega);clear HCF hi0 hin hn;go_enter func74,ntmps74;(go_wp2_with fail);refine HD.o.mono ?_;rintro e w1 ⟨rfl,hw⟩;subst w1;(go_wp2_with fail);refine HC.o.mono ?_;rintro e w2 ⟨hb2,⟨f,φ,rfl,hcl,hall⟩|⟨f,rfl,hnone⟩⟩
      ·obtain⟨k,caps,rfl,he,hcall⟩:=hcl
       have HB2:=hideT hb2;have HE:=hideT (hall leaf);have HCall:=hideT (hcall leaf w2 h1 (Below.refl _ _) (HV.o.below hb2 hv2));clear hcall hall hb2;(go_wp2_with fail);refine HCall.o.mono ?_;rintro e w3 ⟨rfl,hb3⟩;have HB3:=hideT (below2 HB2.o hb3);clear hb3
       have HQ:Hid (inclB leaf i' n' p root=decide (φ leaf=root)):=by
        unfold Hid;rw[HF.o,HE.o];simp
       (go_wp2_with fail);go_ret;exact⟨ret_bool (by rw[HQ.o];exact str_eq _ _),HB3.o⟩
      ·have HQ:Hid (inclB leaf i' n' p root=false):=by
        unfold Hid;rw[HF.o,hnone leaf];simp
       clear hnone;(go_wp2_with fail);go_ret;exact⟨ret_bool HQ.o.symm,hb2⟩
     ·have HF:=hideT (inclB_high leaf i n p root hin)
      have hin':n<=i:=by omega
      clear HCF;generalize p.length=m at hp hcap HD ⊢;go_enter func74,ntmps74;(go_wp2_with fail);refine HD.o.mono ?_;rintro e w1 ⟨rfl,hw⟩;subst w1;(go_wp2_with fail);go_ret;exact⟨ret_bool HF.o.symm,Below.refl _ _⟩
  ·have HF:=hideT (inclB_root leaf i n p root h2)
   clear HCF;generalize p.length=m at hp hcap HD ⊢;go_enter func74,ntmps74
   go_wp2_with fail
   go_ret;exact⟨ret_bool HF.o.symm,Below.refl _ _⟩
 ·have HF:=hideT (inclB_leaf leaf i n p root h1)
  clear HCF;generalize p.length=m at hp hcap HD ⊢;go_enter func74,ntmps74
  go_wp2_with fail
  go_ret;exact⟨ret_bool HF.o.symm,Below.refl _ _⟩
end Tr
namespace Tr
open St
open Sh (nodeV nodeV_size l03Node_any)
end Tr
namespace Ls
open Bk (cnt count_any)
open Bi (is_yes is_no)
open Tr (inclB incl_impl inclB_leaf)
open Sh (Vars leafR leafV leafR_no leafR_yes leaf_impl l03Leaf_any)
open St (Strs)
def fitsB (z b:Int) (r:ByteArray) (i:Int) (t:ByteArray) (p:List ByteArray):Bool:=inclB (leafR t) i ((countN z b r:Nat):Int) p r
theorem mixedF:prog.follows .mixedOrders=true:=by kernel_rfl
theorem vars_keepF {w w':World} (h:Vars w) (hb:Below w.heap.size w w'):Vars w':=h.below hb h.two
theorem fits_piece {z b:Int} {r:ByteArray} {i:Int} {t:ByteArray} {p:List ByteArray} (h:100<t.size):fitsB z b r i t p=false:=by
 unfold fitsB;rw[leafR_no t h];exact inclB_leaf _ _ _ _ _ (by decide)
theorem fits_impl (z b:Int) (r:ByteArray) (i:Int) (t:ByteArray) (p:List ByteArray) (a:Option Addr) (cap m:Nat) (w:World) (ht:t.size<=maxLen) (hm:m=p.length) (hp:m<=1048576) (hcap:m<=cap) (hs:Strs w w.heap.size a p) (hV:Vars w) :
  Calls prog 49 #[lV z b r,.int .i64 i,.string t,.slice a m cap] w fun e w'=>e=.returned (.bool (fitsB z b r i t p))/\Below w.heap.size w w':=by
 have HA:Hid (Below w.heap.size w (w.alloc (.cells #[.int .i64 z,.int .i64 b,.string r] 26))):=(Below.refl _ _).alloc nl _;have HX:Hid ((w.alloc (.cells #[.int .i64 z,.int .i64 b,.string r] 26)).heap[w.heap.size]? = some (.cells #[.int .i64 z,.int .i64 b,.string r] 26 (0,0))):=heap_alloc_new w _;have HC:=hideL (fun W=>count_impl z b r W);have HL:=hideL (fun W h=>leaf_impl t W ht h);have HCL:=countN_le z b r
 have HI:Hid (∀ W,Below w.heap.size w W->Calls prog 74 #[.string (leafR t),.int .i64 i,.int .i64 (countN z b r:Nat),.slice a m cap,.string r] W fun e w'=>e=.returned (.bool (fitsB z b r i t p))/\Below W.heap.size W w'):=fun W h=>by
  have:=incl_impl (leafR t) r i (countN z b r:Nat) p a cap W.heap.size W (by omega) (by omega) (by omega) ((hs.below h).mono h.size) nl (vars_keepF hV h)
  rw[<-hm]at this;exact this
 have HV:Hid (∀ W,Below w.heap.size w W->Vars W):=fun W h=>vars_keepF hV h;have hmx:=mixedF;clear hs hV hm;unfold lV at HC ⊢;generalize fitsB z b r i t p=Q at HI ⊢;generalize leafR t=lf at HI HL;generalize countN z b r=cn at HI HC;go_enter func49,ntmps49
 go_wp2_with fail
 generalize hww:w.alloc (.cells #[.int .i64 z,.int .i64 b,.string r] 26)=wa at HA HX ⊢;clear hww;obtain⟨c0,c1,c2⟩:=cells3 HX.o;generalize w.heap.size=gx at c0 c1 c2 ⊢;have g0:=fun d os=>cell_regrown c0 d os;have g1:=fun d os=>cell_regrown c1 d os;have g2:=fun d os=>cell_regrown c2 d os;refine wp_region_quiet_below (by assumption) (by kernel_rfl) ?_
 repeat (quiet_step (first|(go_at_call 63;exact Calls.regrown_of (HL.o _ (HV.o _ (lowL HA.o (below_regrown _ _ _)))))|(go_at_call 32;exact Calls.regrown_of (HC.o _))|(go_at_call 74;exact Calls.regrown_of (HI.o _ (lowL HA.o (below_regrown _ _ _))))))
 refine wpQuiet_nil ?_;intro _ hw';obtain⟨⟨dq,osq⟩,hw''⟩:=hw';subst hw'';have KQ:=hideL (below_regrown wa dq osq);generalize Go.Sort.grow (redrawn wa dq) osq=w8 at KQ ⊢;clear g0 g1 g2 c0 c1 c2
 go_wp2_with fail
 go_ret;exact⟨rfl,lowL HA.o KQ.o⟩
end Ls
namespace Kp
open Ls (cells3 fitsB fits_impl lV vars_keepF)
open Sh (Vars)
open St (Strs)
def fitR (z b:Int) (r:ByteArray) (x:Rec):Bool:=decide (x.2.2.length<=20) && fitsB z b r x.1 x.2.1 x.2.2
theorem fit_long {z b:Int} {r:ByteArray} {x:Rec} (h:¬x.2.2.length<=20):fitR z b r x=false:=by
 unfold fitR;rw[decide_eq_false h,Bool.false_and]
theorem fit_short {z b:Int} {r:ByteArray} {x:Rec} (h:x.2.2.length<=20):fitR z b r x=fitsB z b r x.1 x.2.1 x.2.2:=by
 unfold fitR;rw[decide_eq_true h,Bool.true_and]
theorem fits_rec (z b:Int) (r:ByteArray) (x:MR) (w:World) (ht:x.1.2.1.size<=maxLen) (hp:x.1.2.2.length<=1048576) (hs:∃ a cap,x.2=.slice a x.1.2.2.length cap/\x.1.2.2.length<=cap/\Strs w w.heap.size a x.1.2.2) (hV:Vars w) :
  Calls prog 26 #[.agg #[.int .i64 x.1.1,.string x.1.2.1,x.2],lV z b r] w fun e w'=>e=.returned (.bool (fitR z b r x.1))/\Below w.heap.size w w':=by
 obtain⟨⟨i,t,p⟩,v⟩:=x;obtain⟨a,cap,hv,hc,hst⟩:=hs;dsimp only at ht hp hv hc hst ⊢;subst hv;obtain⟨n,hn⟩:∃ n,n=p.length:=⟨_,rfl⟩;have C0:=hideK (((Cx.nil w).new (.cells #[.int .i64 i,.string t,.slice a p.length cap] 58)).new (.cells #[.int .i64 z,.int .i64 b,.string r] 26));have HF:=hideK (fun (W:World) (hW:Below w.heap.size w W)=>fits_impl z b r i t p a cap n W ht hn (by omega) (by omega) ((hst.below hW).mono hW.size) (vars_keepF hV hW));have HL:=hideK (fun h=>fit_long (z:=z) (b:=b) (r:=r) (x:=(i,t,p)) h);have HS:=hideK (fun h=>fit_short (z:=z) (b:=b) (r:=r) (x:=(i,t,p)) h);dsimp only at HL HS;rw[<-hn]at C0 HL HS ⊢;clear hst hV hn hc;unfold lV at HF ⊢;by_cases h20:n<=20
 ·have h20':(n:Int)<=20:=by omega
  have HQ:=hideK (HS.o h20);rw[HQ.o];generalize fitsB z b r i t p=Q at HF ⊢;clear HQ HL HS;go_enter func26,ntmps26
  go_wp2_with fail
  refine(HF.o _ C0.o.low).mono ?_;rintro e w1 ⟨rfl,hb⟩;have B1:=hideK (C0.o.call hb).low;clear hb C0
  go_wp2_with fail
  go_ret;exact⟨rfl,B1.o⟩
 ·have HQ:=hideK (HL.o h20)
  rw[HQ.o]
  have h20':decide ((n:Int)<=20)=false:=by simp;omega
  clear HF HQ HL HS;go_enter func26,ntmps26
  go_wp2_with fail
  go_ret;exact⟨rfl,C0.o.low⟩
end Kp
end Go.Proofs.YtbdcffjcogglbaaGreatDoor
