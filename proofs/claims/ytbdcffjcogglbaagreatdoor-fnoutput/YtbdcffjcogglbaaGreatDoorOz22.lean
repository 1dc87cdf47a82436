import Derived.Test.YtbdcffjcogglbaaGreatDoorOz23
import Derived.Shelf.Spec.SlicesGrow
set_option maxRecDepth 100000
set_option maxHeartbeats 8000000
namespace Go.Proofs.YtbdcffjcogglbaaGreatDoor
open Go.RowKit
open Go.Proofs.Tryz
namespace Hf
theorem weight_any (n:Int) (v:Value) (w:World):Calls prog 191 #[.agg #[.int .i64 n,v]] w fun e w'=>e=.returned (.int .i64 n)/\Below w.heap.size w w':=by
 go_enter func191,ntmps191
 go_wp2_with fail
 go_ret;exact⟨rfl,(Below.refl _ _).alloc nl _⟩
theorem weight_enters:∀ args w,(callFunc 191 args).run prog w=.ok (.enter 191 args) w:=enters_of func191 (by kernel_rfl) rfl
theorem least_next (m:List MT) (i:Nat) (hi:i<m.length) (hl:least (mt m) i<m.length):least (mt m) (i+1)=if m[i].1.1<m[least (mt m) i].1.1 then i else least (mt m) i:=by
 rw[least,wt_mt m i hi,wt_mt m _ hl]
theorem least_any (g n cap:Nat) (m:List MT) (cur:Array Value) (t:TypeId) (w:World) (hn:m.length=n) (h0:0<n) (h257:n<=257) (hb:w.heap[g]? = some (.cells cur t (0,0))) (ht:cur.toList.take (m.length*2)=cells m) :
  Calls prog 190 #[.slice (some ⟨g,0,none⟩) n cap,.func (.func 191) #[] #[]] w fun e w'=>e=.returned (.int .i64 (least (mt m) n:Nat))/\Below w.heap.size w w':=by
 have he:=weight_enters;have HN:=hideH hn;have hg:=lt_row hb;have HC:=hideH (fun (W:World) (hW:Below w.heap.size w W) i hi=>row_at (m:=m) ((hW.block g hg).trans hb) ht i hi);have HL:=hideH (least_le (mt m));clear hn hb ht;go_enter func190,ntmps190
 go_wp2_with fail
 go_loopw [9,5] (fun iv kv wr=>∃ i k:Nat,iv=.int .i64 i/\kv=.int .i64 k/\i<=n/\k=least (mt m) i/\Below w.heap.size w wr) (fun iv _ _=>n-(intOf iv).toNat)
 case atStart=>exact⟨0,0,rfl,rfl,Nat.zero_le _,rfl,Below.refl _ _⟩
 case round =>
  obtain⟨i,k,rfl,rfl,hi,hk,hbw⟩:=hrel;have HK:=hideH hk;have BW:=hideH hbw;clear hk hbw;by_cases hlt:i<n
  ·have hkn:k<n:=by have h1:=HL.o i;have h2:=HK.o;omega
   have hi':i<m.length:=by rw[HN.o];exact hlt
   have hk':k<m.length:=by rw[HN.o];exact hkn
   obtain⟨ci0,ci1⟩:=HC.o _ BW.o i hi';obtain⟨ck0,ck1⟩:=HC.o _ BW.o k hk';have HCI:=hideH (fun W hW=>HC.o W hW i hi');have HCK:=hideH (fun W hW=>HC.o W hW k hk');have HNX:=hideH (least_next m i hi' (by rw[<-HK.o];exact hk'))
   have HNX2:Hid (least (mt m) (i+1)=if m[i].1.1<m[k].1.1 then i else k):=by
    have:=HNX.o
    simp only[<-HK.o]at this;exact this
   clear HNX;generalize m[i]=x at ci0 ci1 HCI HNX2;generalize m[k]=y at ck0 ck1 HCK HNX2;obtain⟨⟨xw,xs⟩,xv⟩:=x;obtain⟨⟨yw,ys⟩,yv⟩:=y
   simp only at ci0 ci1 ck0 ck1 HCI HCK HNX2
   clear hi' hk'
   go_wp2_with fail
   go_region_with (first|(go_at_call_of 191 (Value.int IntKind.i64 (xw:Int));(with_reducible refine(weight_any _ _ _).mono ?_);rintro e w2 ⟨rfl,hb2⟩;have B2:=hideH (BW.o.drew.trans (hb2.mono BW.o.drew.size));obtain⟨di0,di1⟩:=HCI.o _ B2.o;obtain⟨dk0,dk1⟩:=HCK.o _ B2.o;clear hb2)|(go_at_call_of 191 (Value.int IntKind.i64 (yw:Int));(with_reducible refine(weight_any _ _ _).mono ?_);rintro e w3 ⟨rfl,hb3⟩;have B3:=hideH (B2.o.trans (hb3.mono B2.o.size));clear hb3))
   all_goals (
    by_cases hxy:xw<yw
    ·have hxy':(xw:Int)<(yw:Int):=by omega
     rw[if_pos hxy]at HNX2;(go_wp2_with fail)
     go_roundw
     case rel=>exact⟨i+1,i,by go_num,rfl,by omega,HNX2.o.symm,B3.o⟩
     case measure=>simp[intOf];omega
    ·have hxy':decide ((xw:Int)<(yw:Int))=false:=by simp;omega
     rw[if_neg hxy]at HNX2;(go_wp2_with fail)
     go_roundw
     case rel=>exact⟨i+1,k,by go_num,rfl,by omega,HNX2.o.symm,B3.o⟩
     case measure=>simp[intOf];omega)
  ·obtain rfl:i=n:=by omega
   go_wp2_with fail
   go_ret;exact⟨by rw[HK.o];rfl,BW.o⟩
end Hf
namespace Hf
open In (IsI irow)
structure Wr (g gl:Nat) (w w':World):Prop where
 os:w'.os=w.os
 tape:w'.tape=w.tape
 output:w'.output=w.output
 size:w.heap.size<=w'.heap.size
 block:∀ k,k<w.heap.size->k≠g->k≠gl->w'.heap[k]? = w.heap[k]?
theorem Wr.refl (g gl:Nat) (w:World):Wr g gl w w:=⟨rfl,rfl,rfl,nl,fun _ _ _ _=>rfl⟩
theorem Wr.trans {g gl:Nat} {a b c:World} (h:Wr g gl a b) (k:Wr g gl b c):Wr g gl a c :=
 ⟨k.os.trans h.os,k.tape.trans h.tape,k.output.trans h.output,Nat.le_trans h.size k.size,fun i hi h1 h2=>(k.block i (Nat.lt_of_lt_of_le hi h.size) h1 h2).trans (h.block i hi h1 h2)⟩
theorem Wr.of {g gl:Nat} {a b:World} (h:Below a.heap.size a b):Wr g gl a b:=⟨h.os,h.tape,h.output,h.size,fun k hk _ _=>h.block k hk⟩
theorem Wr.more {g gl:Nat} {a b c:World} (h:Wr g gl a b) (k:Below b.heap.size b c):Wr g gl a c:=h.trans (Wr.of k)
theorem Wr.setg {g gl:Nat} {a b:World} (h:Wr g gl a b) (o:Nat) (vs:List Value):Wr g gl a (b.setCells g o vs):=by
 have hk:=World.keptBut_setCells g (may:=fun _=>True) vs o b (fun _ _=>trivial)
 induction vs generalizing o b with
 |nil=>exact h
 |cons v r ih =>
  refine ih (b:=b.setCell ⟨g,o,none⟩ v) ⟨?_,?_,?_,?_,?_⟩ (o+1) (World.keptBut_setCells g (may:=fun _=>True) r (o+1) _ (fun _ _=>trivial))
  ·exact h.os
  ·exact h.tape
  ·exact h.output
  ·show a.heap.size<=(b.setCell ⟨g,o,none⟩ v).heap.size
   simpa [World.setCell] using h.size
  ·intro k hk h1 h2
   rw[heap_setCell_other b _ k v h1];exact h.block k hk h1 h2
theorem Wr.setl {g gl:Nat} {a b:World} (h:Wr g gl a b) (o:Nat) (v:Value):Wr g gl a (b.setCell ⟨gl,o,none⟩ v) :=
 ⟨h.os,h.tape,h.output,by simpa [World.setCell] using h.size,fun k hk h1 h2=>by
  rw[heap_setCell_other b _ k v h2]
  exact h.block k hk h1 h2⟩
theorem Wr.new {g gl:Nat} {a b:World} (h:Wr g gl a b) {z:Nat} (hz:a.heap.size<=z) (o:Nat) (v:Value):Wr g gl a (b.setCell ⟨z,o,none⟩ v) :=
 ⟨h.os,h.tape,h.output,by simpa [World.setCell] using h.size,fun k hk h1 h2=>by
  rw[heap_setCell_other b _ k v (by show k≠z;omega)]
  exact h.block k hk h1 h2⟩
def up (d:List Nat):List Int:=d.map fun (x:Nat)=>(x:Int)
theorem up_length (d:List Nat):(up d).length=d.length:=List.length_map ..
theorem up_at (d:List Nat) (k:Nat) (h:k<d.length):(up d)[k]'(by rw[up_length];exact h)=((d.getD k 0:Nat):Int):=by
 unfold up;rw[List.getElem_map,List.getD_eq_getElem?_getD,List.getElem?_eq_getElem h];rfl
theorem up_set (d:List Nat) (k v:Nat):(up d).set k (v:Int)=up (d.set k v):=by
 unfold up;rw[List.map_set]
theorem incs_next (d s:List Nat) (j:Nat) (h:j<s.length):incs d (s.take (j+1))=(incs d (s.take j)).set s[j] ((incs d (s.take j)).getD s[j] 0+1):=by
 rw[List.take_add_one,List.getElem?_eq_getElem h];unfold incs;rw[List.foldl_append];rfl
theorem incs_le (s:List Nat):∀ (d:List Nat) (j:Nat),(∀ k∈s,k<d.length)->(incs d s).getD j 0<=d.getD j 0+s.length:=by
 unfold incs
 induction s with
 |nil=>intro d j _;exact nl
 |cons k s ih =>
  intro d j hk;rw[List.foldl_cons];have h1:=ih (d.set k (d.getD k 0+1)) j (fun x hx=>by rw[List.length_set];exact hk x (List.mem_cons_of_mem _ hx));rw[getD_set _ _ _ _ (hk k (List.mem_cons_self ..))]at h1;rw[List.length_cons]
  split at h1
  ·rename_i e
   subst e;omega
  ·omega
theorem sym_one {W:World} {v:Value} {s:List Nat} (h:Sym W v s):v.oneCell'=true:=by
 obtain⟨g,cap,_,rfl,_⟩:=h;rfl
theorem first_mt (m:List MT) (hl:least (mt m) m.length<m.length):(m[least (mt m) m.length]).1=first (mt m):=by
 unfold first at0;rw[mt_length,List.getD_eq_getElem?_getD];unfold mt;rw[List.getElem?_map,List.getElem?_eq_getElem (by unfold mt at hl;exact hl)];rfl
theorem erase_map:∀ (m:List MT) (i:Nat),(m.eraseIdx i).map (fun x=>x.fst)=(m.map fun x=>x.fst).eraseIdx i
 |[],_=>rfl
 |_ :: _,0=>rfl
 |x :: m,i+1=>by
  rw[List.eraseIdx_cons_succ,List.map_cons,List.map_cons,List.eraseIdx_cons_succ,erase_map m i]
theorem rest_mt (m:List MT):mt (m.eraseIdx (least (mt m) m.length))=rest1 (mt m):=by
 unfold rest1;rw[mt_length];unfold mt;rw[erase_map]
theorem take_any (g gl k cap n capl:Nat) (m:List MT) (d:List Nat) (cur:Array Value) (w:World) (hn:m.length=k+1) (hc:k+1<=cap) (h257:k<=256) (hb:w.heap[g]? = some (.cells cur 204 (0,0))) (hs:cur.size=cap*2) (ht:cur.toList.take ((k+1)*2)=cells m)
  (hy:Syms w m) (hsl:∀ x∈m,x.1.2.length<=257) (hlt:∀ x∈m,∀ s∈x.1.2,s<d.length) (hd:IsI w gl 2 (up d)) (hdn:d.length=n) (hdm:∀ j,d.getD j 0<=3000000) (x:MT) (hx:m[least (mt m) (k+1)]? = some x) :
  Calls prog 161 #[.slice (some ⟨g,0,none⟩) (k+1) cap,.slice (some ⟨gl,0,none⟩) n capl] w fun e w' =>
   e=.returned (.tuple #[.agg #[.int .i64 (x.1.1:Nat),x.2],.slice (some ⟨g,0,none⟩) k cap])/\(∃ cur':Array Value,w'.heap[g]? = some (.cells cur' 204 (0,0))/\cur'.size=cap*2/\cur'.toList.take (k*2)=cells (m.eraseIdx (least (mt m) (k+1))))/\IsI w' gl 2 (up (incs d x.1.2))/\Wr g gl w w':=by
 have hgl:g≠gl:=by
  rintro rfl
  have:=hd
  unfold IsI at this;rw[hb]at this;simp at this
 obtain⟨hal,hxe⟩:=List.getElem?_eq_some_iff.1 hx;have hle:=least_le (mt m) (k+1);have HDL:=hideH (fun (W:World) (cur':Array Value) h1 h2 h3 h4=>delete_any g k cap (least (mt m) (k+1)) m cur' W hn (by omega) hc (by omega) h1 h2 h3 h4);have HGO:=hideH (fun (cur':Array Value) h1 h2=>gone_list cur' m (k+1) cap (least (mt m) (k+1)) hn (by omega) hc h1 h2 (.int .i64 0) (.slice none 0 0))
 have HER:Hid ((m.eraseIdx (least (mt m) (k+1))).length=k):=by
  unfold Hid;rw[List.length_eraseIdx,if_pos hal,hn];omega
 have HLE:=hideH (fun (W:World) (h:Below w.heap.size w W)=>least_any g (k+1) cap m cur _ W hn (by omega) (by omega) ((h.block g (lt_row hb)).trans hb) (by rw[hn];exact ht));have HROW:=hideH (fun (W:World) (h:W.heap[g]? = some (.cells cur 204 (0,0)))=>row_at (m:=m) h (by rw[hn];exact ht) _ hal);rw[hxe]at HROW
 have hxm:x∈m:=by rw[<-hxe];exact List.getElem_mem hal
 have HO1:=hideH (fun (y:MT) (hy':y∈m)=>sym_one (hy y hy'));have hsx:=hy x hxm;have hxl:=hsl x hxm;have hxt:=hlt x hxm;have HHT:=hideH ht;have HHS:=hideH hs;generalize least (mt m) (k+1)=at_ at HDL HGO HER HLE HROW hle ⊢;clear hx hxe hal hxm hsl hlt hy ht hs hn;obtain⟨⟨xw,xs⟩,xv⟩:=x
 simp only at HROW hsx hxl hxt ⊢
 obtain⟨gs,cs,sc,rfl,hgs,hsc,hsv⟩:=hsx
 have hgsl:gs≠gl:=by
  rintro rfl
  have:=hd
  unfold IsI at this;rw[hgs]at this;simp at this
 have hdl:=hd.lt;have hgsz:=lt_row hgs;have hgz:=lt_row hb;have HXT:=hideH hxt;have HDN:=hideH hdn;have HDM:=hideH hdm;have HIN:=hideH (fun j=>incs_le (xs.take j) d);have HSV:=hideH hsv;obtain⟨sl,hsl⟩:∃ sl,sl=xs.length:=⟨_,rfl⟩;have HSL:=hideH hsl;rw[<-hsl]at hxl hsc HROW ⊢;clear hsl hxt hdn hdm hsv;go_enter func161,ntmps161
 go_wp2_with fail
 have HB0:=hideH ((Below.refl w.heap.size w).alloc nl (.cells #[.int .i64 0,.slice none 0 0] 204));refine(HLE.o _ HB0.o).mono ?_;rintro e w1 ⟨rfl,hb1⟩
 have hz1:w.heap.size+1<=w1.heap.size:=by have:=hb1.size;simpa using this
 have HB1:=hideH (HB0.o.trans (hb1.mono (by simp)));have HR1:Hid (w1.heap[w.heap.size]? = some (.cells #[.int .i64 0,.slice none 0 0] 204 (0,0))):=(hb1.block w.heap.size (by simp)).trans (heap_alloc_new w _);have HG1:=hideH ((HB1.o.block g hgz).trans hb);obtain⟨r0,r1⟩:=HROW.o w1 HG1.o
 have ga:(at_:Int)<(k:Int)+1:=by omega
 clear hb1
 go_wp2_with fail
 have HW2:=hideH (show Below w1.heap.size w1 (w1.alloc (.cells #[.int .i64 (xw:Nat),.slice (some ⟨gs,0,none⟩) sl cs] 204)) from (Below.refl _ _).alloc nl _);have HR2:=hideH ((HW2.o.block w.heap.size (by omega)).trans HR1.o);have HG2:=hideH ((HW2.o.block g (by omega)).trans HG1.o);have HV2:Hid ((w1.alloc (.cells #[.int .i64 (xw:Nat),.slice (some ⟨gs,0,none⟩) sl cs] 204)).heap[w1.heap.size]? = some (.cells #[.int .i64 (xw:Nat),.slice (some ⟨gs,0,none⟩) sl cs] 204 (0,0))):=heap_alloc_new w1 _;have HS2:=hideH ((HW2.o.block gs (by omega)).trans ((HB1.o.block gs hgsz).trans hgs));have HD2:Hid (IsI (w1.alloc (.cells #[.int .i64 (xw:Nat),.slice (some ⟨gs,0,none⟩) sl cs] 204)) gl 2 (up d)):=(hd.below HB1.o hdl).below HW2.o (by omega);have HB2:=hideH (HB1.o.trans (HW2.o.mono (by omega)))
 have hz2:(w1.alloc (.cells #[.int .i64 (xw:Nat),.slice (some ⟨gs,0,none⟩) sl cs] 204)).heap.size=w1.heap.size+1:=by simp
 generalize w1.alloc (.cells #[.int .i64 (xw:Nat),.slice (some ⟨gs,0,none⟩) sl cs] 204)=w2 at HW2 HR2 HG2 HV2 HS2 HD2 HB2 hz2 ⊢;have HD0:Hid (IsI w2 gl 2 (up (incs d (xs.take 0)))):=HD2.o;clear r0 r1 hd hb hgs HLE
 go_loopw [19,9] (fun iv _ wr=>∃ j:Nat,iv=.int .i64 j/\j<=sl/\IsI wr gl 2 (up (incs d (xs.take j)))/\Wr gl gl w2 wr) (fun iv _ _=>sl-(intOf iv).toNat)
 case atStart=>exact⟨0,rfl,Nat.zero_le _,HD0.o,Wr.refl _ _ _⟩
 case round =>
  obtain⟨j,rfl,hj,hdj,hwr⟩:=hrel;have HDJ:=hideH hdj;have HWR:=hideH hwr;clear hdj hwr;by_cases hlt:j<sl
  ·have hjx:j<xs.length:=by rw[<-HSL.o];exact hlt
   have cs0:wr.cell? ⟨gs,j,none⟩=some (.int .i64 (xs[j]:Nat)):=(cell_of_row wr gs j _ _ _ ((HWR.o.block gs (by omega) hgsl hgsl).trans HS2.o)).trans (HSV.o j hjx);have hsy:=HXT.o xs[j] (List.getElem_mem hjx);have HNX:=hideH (incs_next d xs j hjx);have HBD:=hideH (HIN.o j xs[j] (fun s hs=>HXT.o s (List.mem_of_mem_take hs)));have HBM:=hideH (HDM.o xs[j]);generalize xs[j]=sy at cs0 hsy HNX HBD HBM
   have hlen:sy<(incs d (xs.take j)).length:=by rw[incs_length];exact hsy
   have cl0:wr.cell? ⟨gl,sy,none⟩=some (.int .i64 (((incs d (xs.take j)).getD sy 0:Nat):Int)):=by
    rw[HDJ.o.cell (j:=sy) (by rw[up_length];exact hlen),up_at _ _ hlen]
   have zl0:=HDJ.o.frozen sy
   have hsn:(sy:Int)<n:=by have:=HDN.o;omega
   have HTL:Hid ((xs.take j).length<=257):=by
    unfold Hid;rw[List.length_take];omega
   obtain⟨dv,hdv⟩:∃ dv,dv=(incs d (xs.take j)).getD sy 0:=⟨_,rfl⟩
   have hdvb:dv<=3000257:=by have h1:=HBD.o;have h2:=HBM.o;have h3:=HTL.o;omega
   have HDV:=hideH hdv;rw[<-hdv]at cl0;clear hdv hjx hsy hlen HBD HBM HTL
   go_wp2_with fail
   go_roundw
   case rel =>
    refine⟨j+1,by go_num,by omega,?_,HWR.o.setl _ _⟩
    have:=HDJ.o.set sy ((dv:Int)+1)
    rw[HNX.o,<-HDV.o,<-up_set];exact this
   case measure=>simp[intOf];omega
  ·obtain rfl:j=sl:=by omega
   have HDE:Hid (IsI wr gl 2 (up (incs d xs))):=by
    have:=HDJ.o
    rw[HSL.o,List.take_length]at this;exact this
   have hzw:=HWR.o.size;have HV:=hideH ((HWR.o.block w1.heap.size (by omega) (by omega) (by omega)).trans HV2.o);have HR:=hideH ((HWR.o.block w.heap.size (by omega) (by omega) (by omega)).trans HR2.o);have HG:=hideH ((HWR.o.block g (by omega) hgl hgl).trans HG2.o);have HWW:Hid (Wr g gl w wr):=⟨HWR.o.os.trans HB2.o.os,HWR.o.tape.trans HB2.o.tape,HWR.o.output.trans HB2.o.output,by omega,fun b h1 h2 h3=>(HWR.o.block b (by omega) h3 h3).trans (HB2.o.block b h1)⟩;have c70:wr.cell? ⟨w1.heap.size,0,none⟩=some (.int .i64 (xw:Nat)):=cell_of_row wr _ 0 _ _ _ HV.o;have c71:wr.cell? ⟨w1.heap.size,1,none⟩=some (.slice (some ⟨gs,0,none⟩) j cs):=cell_of_row wr _ 1 _ _ _ HV.o
   have HK:Hid (∀ w5:World,w5=(wr.drew.drew.setCells g (0+at_*2) (cells (m.drop (at_+1)))).setCells g (k*2) [.int .i64 0,.slice none 0 0]->Wr g gl wr w5/\∃ cur':Array Value,w5.heap[g]? = some (.cells cur' 204 (0,0))/\cur'.size=cap*2/\cur'.toList.take (k*2)=cells (m.eraseIdx at_)):=by
    rintro w5 rfl;refine⟨((Wr.of (show Below wr.heap.size wr wr.drew.drew from (Below.refl _ _).drew.drew)).setg _ _).setg _ _,_,lays_heap g _ _ _ _ _ (lays_heap g _ _ _ _ _ HG.o),by rw[lays_size,lays_size];exact HHS.o,?_⟩
    have:=HGO.o cur HHS.o HHT.o
    rw[HER.o,Nat.add_sub_cancel]at this;rw[Nat.zero_add];exact this
   have HKE:Hid (∀ w5:World,Wr g gl wr w5->w5.heap[w.heap.size]? = some (.cells #[.int .i64 0,.slice none 0 0] 204 (0,0))/\w5.heap[w1.heap.size]? = some (.cells #[.int .i64 (xw:Nat),.slice (some ⟨gs,0,none⟩) j cs] 204 (0,0))):=fun w5 h =>
    ⟨(h.block w.heap.size (by omega) (by omega) (by omega)).trans HR.o,(h.block w1.heap.size (by omega) (by omega) (by omega)).trans HV.o⟩
   have HDK:Hid (∀ w5:World,Wr g g wr w5->IsI w5 gl 2 (up (incs d xs))):=fun w5 h=>by
    unfold IsI;rw[h.block gl (by omega) (fun e=>hgl e.symm) (fun e=>hgl e.symm)];exact HDE.o
   have HKG:Hid (∀ w5:World,w5=(wr.drew.drew.setCells g (0+at_*2) (cells (m.drop (at_+1)))).setCells g (k*2) [.int .i64 0,.slice none 0 0]->Wr g g wr w5):=by
    rintro w5 rfl;exact((Wr.of (show Below wr.heap.size wr wr.drew.drew from (Below.refl _ _).drew.drew)).setg _ _).setg _ _
   have ga1:IntKind.i64.wrap ((at_:Int)+1)=(at_:Int)+1:=by rw[IntKind.wrap_i64];omega
   clear HDJ HGO HER HXT HIN HSV HROW HV2 HR2 HG2 HS2 HD2 HD0 HB0 HB1 HR1 HG1 HW2
   go_wp2_with fail
   go_region_with (first|(go_at_call 192;(with_reducible refine(HDL.o _ cur ?_ HHS.o HHT.o HO1.o).mono ?_);(· exact HG.o);rintro e w5 ⟨rfl,hw5⟩;obtain⟨hw5a,cur',hg5,hs5,ht5⟩:=HK.o w5 hw5;have HWA:=hideH hw5a;have HG5:=hideH hg5;have HS5:=hideH hs5;have HT5:=hideH ht5;have HD5:=hideH (HDK.o w5 (HKG.o w5 hw5));obtain⟨hr5,hv5⟩:=HKE.o w5 hw5a;have c00:=cell_of_row w5 _ 0 _ _ _ hr5;have c01:=cell_of_row w5 _ 1 _ _ _ hr5;have z00:=frozen_of_row w5 _ 0 _ _ hr5;have z01:=frozen_of_row w5 _ 1 _ _ hr5;have d70:=cell_of_row w5 _ 0 _ _ _ hv5;have d71:=cell_of_row w5 _ 1 _ _ _ hv5;simp at c00 c01 d70 d71;clear hw5 hw5a hg5 hs5 ht5 hr5 hv5))
   all_goals (try go_wp2_with fail)
   all_goals exact bodyPost_ret (v:=.tuple #[.agg #[.int .i64 (xw:Nat),.slice (some ⟨gs,0,none⟩) j cs],.slice (some ⟨g,0,none⟩) k cap]) (by simp[results,results161,go_sem,c00,c01]) rfl ⟨rfl,⟨cur',by rw[heap_setCell_other _ _ _ _ (by show g≠w.heap.size;omega),heap_setCell_other _ _ _ _ (by show g≠w.heap.size;omega)];exact HG5.o,HS5.o,HT5.o⟩,(HD5.o.set_other _ _ (by show gl≠w.heap.size;omega)).set_other _ _ (by show gl≠w.heap.size;omega),((HWW.o.trans HWA.o).new nl _ _).new nl _ _⟩
end Hf
namespace Hf
open In (IsI irow Ints made_ints)
theorem flat_next (c:List Nat) (j:Nat) (h:j<c.length):((flat c).take j++List.replicate (c.length-j) 0).set j (if 0<c[j] then c[j]/2+1 else 0)=(flat c).take (j+1)++List.replicate (c.length-(j+1)) 0:=by
 have hf:(flat c)[j]'(by rw[flat_length];exact h)=if 0<c[j] then c[j]/2+1 else 0:=by
  unfold flat;rw[List.getElem_map]
 rw[<-hf]
 apply List.ext_getElem?
 intro i
 have hl:((flat c).take j).length=j:=by rw[List.length_take,flat_length];omega
 have hl':((flat c).take (j+1)).length=j+1:=by rw[List.length_take,flat_length];omega
 rw[List.getElem?_set];by_cases e:j=i
 ·subst e
  rw[if_pos rfl,if_pos (by rw[List.length_append,hl,List.length_replicate];omega),List.getElem?_append_left (by omega),List.getElem?_take_of_lt (by omega),List.getElem?_eq_getElem]
 ·rw[if_neg e]
  by_cases hi:i<j
  ·rw[List.getElem?_append_left (by omega),List.getElem?_append_left (by omega),List.getElem?_take_of_lt hi,List.getElem?_take_of_lt (by omega)]
  ·rw[List.getElem?_append_right (by omega),List.getElem?_append_right (by omega),hl,hl',List.getElem?_replicate,List.getElem?_replicate]
   have:(i-j<c.length-j)=(i-(j+1)<c.length-(j+1)):=propext ⟨fun h=>by omega,fun h=>by omega⟩
   simp only[this]
def midF (c:List Nat) (j:Nat):List Nat:=(flat c).take j++List.replicate (c.length-j) 0
theorem midF_length (c:List Nat) (j:Nat) (h:j<=c.length):(midF c j).length=c.length:=by
 unfold midF;rw[List.length_append,List.length_take,flat_length,List.length_replicate];omega
theorem midF_yes (c:List Nat) (j:Nat) (h:j<c.length) (h0:0<c[j]):(midF c j).set j (c[j]/2+1)=midF c (j+1):=by
 have:=flat_next c j h
 rw[if_pos h0]at this;exact this
theorem midF_no (c:List Nat) (j:Nat) (h:j<c.length) (h0:¬0<c[j]):midF c j=midF c (j+1):=by
 have:=flat_next c j h
 rw[if_neg h0]at this;unfold midF;rw[<-this]
 apply List.ext_getElem?
 intro i;rw[List.getElem?_set];by_cases e:j=i
 ·subst e
  have hl:((flat c).take j).length=j:=by rw[List.length_take,flat_length];omega
  rw[if_pos rfl,if_pos (by rw[List.length_append,hl,List.length_replicate];omega),List.getElem?_append_right (by omega),hl,Nat.sub_self,List.getElem?_replicate,if_pos (by omega)]
 ·rw[if_neg e]
theorem midF_zero (c:List Nat):up (midF c 0)=List.replicate c.length 0:=by
 unfold midF up;rw[List.take_zero,List.nil_append,Nat.sub_zero,List.map_replicate];rfl
theorem midF_all (c:List Nat):midF c c.length=flat c:=by
 unfold midF;rw[Nat.sub_self,List.replicate_zero,List.append_nil,List.take_of_length_le (by rw[flat_length];exact nl)]
theorem up_get {c:List Nat} {W:World} {b off:Nat} (hc:∀ j (h:j<(up c).length),W.cell? ⟨b,off+j,none⟩=some (.int .i64 (up c)[j])) (j:Nat) (h:j<c.length):W.cell? ⟨b,off+j,none⟩=some (.int .i64 (c[j]:Nat)):=by
 rw[hc j (by rw[up_length];exact h),up_at c j h,List.getD_eq_getElem?_getD,List.getElem?_eq_getElem h];rfl
theorem flat_any (a:Option Addr) (cap n:Nat) (c:List Nat) (w:World) (h:Ints w w.heap.size a (up c)) (hn:c.length=n) (h257:n<=257) (hm:∀ x∈c,x<=10000) :
  Calls prog 130 #[.slice a n cap] w fun e w'=>e=.returned (.slice (some ⟨w.heap.size,0,none⟩) n n)/\IsI w' w.heap.size 2 (up (flat c))/\Below w.heap.size w w':=by
 obtain⟨i0,hi,hz0,hz1,hz2⟩:=info_parts In.Tryz.infoI2;have HN:=hideH hn;have HS:=hideH h;have HM:=hideH hm;clear hn h hm;go_enter func130,ntmps130
 go_wp2_with (at_make;refine wpList_make_full _ rfl (.tmp 7) (.tmp 7) 69 rfl w.heap.size 2 i0 (.int .i64 0) 1 underlying69 hi hz0 hz1 .i64 .i64 _ _ n rfl rfl (by omega) (by omega) (by rw[hz2];omega) (by unfold maxLen;omega) nl ?_;intro w1 hown hgrow;have HI1:=hideH (made_ints hown);have HB1:=hideH ((Below.refl w.heap.size w).grown hgrow nl (by simp));clear hown hgrow)
 go_loopw [11,4,5] (fun iv _ _ wr=>∃ j:Nat,iv=.int .i64 j/\j<=n/\IsI wr w.heap.size 2 (up (midF c j))/\Below w.heap.size w wr) (fun iv _ _ _=>n-(intOf iv).toNat)
 case atStart=>exact⟨0,rfl,Nat.zero_le _,by rw[midF_zero,HN.o];exact HI1.o,HB1.o⟩
 case round =>
  obtain⟨j,rfl,hj,hij,hbw⟩:=hrel;have HIJ:=hideH hij;have HBW:=hideH hbw;clear hij hbw;by_cases hlt:j<n
  ·have hjc:j<c.length:=by rw[HN.o];exact hlt
   obtain⟨b,off,rfl,hbz,hcl⟩:=HS.o.some (by rw[up_length];omega);have ci:wr.cell? ⟨b,off+j,none⟩=some (.int .i64 (c[j]:Nat)):=(HBW.o.cell (p:=⟨b,off+j,none⟩) hbz).trans (up_get hcl j hjc);have HY:=hideH (midF_yes c j hjc);have HNO:=hideH (midF_no c j hjc);have hcm:=HM.o c[j] (List.getElem_mem hjc);have HML:=hideH (midF_length c j (by omega));generalize c[j]=cj at ci HY HNO hcm;clear hcl hjc;by_cases h0:0<cj
   ·have h0':(0:Int)<(cj:Int):=by omega
    have cl:wr.cell? ⟨w.heap.size,j,none⟩=some (.int .i64 ((midF c j).getD j 0:Nat)):=by
     have hl:j<(midF c j).length:=by rw[HML.o,HN.o];exact hlt
     rw[HIJ.o.cell (j:=j) (by rw[up_length];exact hl),up_at _ _ hl]
    have zl:=HIJ.o.frozen j;have hq:(cj:Int).tdiv 2=((cj/2:Nat):Int):=(by rw[Int.tdiv_eq_ediv_of_nonneg (by omega)];rfl);generalize (midF c j).getD j 0=old at cl;(go_wp2_with fail)
    go_roundw
    case rel =>
     refine⟨j+1,by go_num,by omega,?_,HBW.o.setCell (by simp) _⟩;rw[<-HY.o h0,<-up_set];exact HIJ.o.set j _
    case measure=>simp[intOf];omega
   ·have h0':cj=0:=by omega
    subst h0';(go_wp2_with fail)
    go_roundw
    case rel=>exact⟨j+1,by go_num,by omega,by rw[<-HNO.o h0];exact HIJ.o,HBW.o⟩
    case measure=>simp[intOf];omega
  ·obtain rfl:j=n:=by omega
   have HE:Hid (IsI wr w.heap.size 2 (up (flat c))):=by
    have:=HIJ.o
    rw[<-HN.o,midF_all]at this;exact this
   go_wp2_with fail
   go_ret;exact⟨rfl,HE.o,HBW.o⟩
end Hf
namespace Hf
open In (IsI irow Ints made_ints)
theorem two_new (W:World) (x y:Value) (t:TypeId):∀ (j:Nat) (u:Value),[x,y][j]? = some u->(W.alloc (.cells #[x,y] t)).cell? ((⟨W.heap.size,0,none⟩:Addr).add j)=some u:=by
 intro j u hj
 match j,hj with
 |0,hj=>simp at hj;subst hj;simp[Addr.add]
 |1,hj=>simp at hj;subst hj;simp[Addr.add]
theorem two_one {x y:Value} (hx:x.oneCell'=true) (hy:y.oneCell'=true):∀ u∈[x,y],u.oneCell'=true:=by
 intro u hu;simp at hu
 rcases hu with rfl|rfl
 ·exact hx
 ·exact hy
theorem Keeps.grown {W W':World} {row:Option Nat} (h:W.grownBy W' row) (hr:∀ k,row=some k->∃ cs t,W.heap[k]? = some (.cells cs t (0,0))/\t≠3):Keeps W W':=fun g cur e=>by
 rw[h.block g (lt_row e) (by
  intro hg;obtain⟨cs,t,hk,ht⟩:=hr g hg.symm;rw[hk]at e;simp at e
  exact ht e.2)]
 exact e
theorem OwnT.rowT {W:World} {e:TypeId} {base:Nat} {v:Value} {m:List MT} (h:OwnT W e base v m) (he:e≠3):∀ k,v.ownBlock=some k->∃ cs t,W.heap[k]? = some (.cells cs t (0,0))/\t≠3:=by
 intro k hk;obtain⟨_,h⟩:=h
 rcases h with⟨h,_⟩|⟨g,cap,cur,hv,_,hb,_⟩
 ·subst h
  simp[Value.ownBlock]at hk
 ·subst hv
  simp[Value.ownBlock]at hk;subst hk;exact⟨cur,e,hb,he⟩
theorem OwnT.alloc {W:World} {e:TypeId} {base:Nat} {v:Value} {m:List MT} (h:OwnT W e base v m) (o:Obj):OwnT (W.alloc o) e base v m:=World.ownsRow.alloc h o
theorem OwnT.snoc {W:World} {e:TypeId} {base:Nat} {v:Value} {m:List MT} {x:MT} (h:W.ownsRow base e 2 v (m.length+1) (cells m++[.int .i64 (x.1.1:Nat),x.2])):OwnT W e base v (m++[x]):=by
 unfold OwnT;rw[List.length_append,cells_append];exact h
theorem Sym.one (W:World) (j:Nat):Sym (W.alloc (.cells #[.int .i64 (j:Nat)] 3)) (.slice (some ⟨W.heap.size,0,none⟩) 1 1) [j] :=
 ⟨W.heap.size,1,_,rfl,heap_alloc_new W _,nl,fun i hi=>by
  have:i=0:=by simpa using hi
  subst this
  rfl⟩
theorem trees_yes (c:List Nat) (j:Nat) (h:j<c.length) (h0:0<c[j]):trees c (j+1)=trees c j++[(c[j],[j])]:=by
 have:c.getD j 0=c[j]:=by rw[List.getD_eq_getElem?_getD,List.getElem?_eq_getElem h];rfl
 rw[trees,this,if_pos h0]
theorem trees_no (c:List Nat) (j:Nat) (h:j<c.length) (h0:¬0<c[j]):trees c (j+1)=trees c j:=by
 have:c.getD j 0=c[j]:=by rw[List.getD_eq_getElem?_getD,List.getElem?_eq_getElem h];rfl
 rw[trees,this,if_neg h0]
theorem treesOf_any (a:Option Addr) (cap n:Nat) (c:List Nat) (w:World) (h:Ints w w.heap.size a (up c)) (hn:c.length=n) (h257:n<=257) :
  Calls prog 160 #[.slice a n cap] w fun e w'=>∃ v m,e=.returned v/\mt m=trees c n/\OwnT w' 204 w.heap.size v m/\Syms w' m/\Below w.heap.size w w':=by
 obtain⟨i0,hi,hz0,hz1,hz2⟩:=info_parts Tryz.infoTree;have HN:=hideH hn;have HS:=hideH h;clear hn h;go_enter func160,ntmps160
 go_wp2_with fail
 go_loopw [8,3,4,5] (fun iv tv _ _ wr=>∃ (j:Nat) (m:List MT),iv=.int .i64 j/\j<=n/\mt m=trees c j/\OwnT wr 204 w.heap.size tv m/\Syms wr m/\Below w.heap.size w wr) (fun iv _ _ _ _=>n-(intOf iv).toNat)
 case atStart=>exact⟨0,[],rfl,Nat.zero_le _,rfl,World.ownsRow_nil _ _ _ _,fun x hx=>absurd hx (List.not_mem_nil),Below.refl _ _⟩
 case round =>
  obtain⟨j,m,rfl,hj,hm,ho,hy,hbw⟩:=hrel;have HM:=hideH hm;have HO:=hideH ho;have HY:=hideH hy;have HBW:=hideH hbw;have hwz:=hbw.size
  have hml:m.length<=j:=by rw[<-mt_length,hm];exact trees_length c j
  clear hm ho hy hbw;by_cases hlt:j<n
  ·have hjc:j<c.length:=by rw[HN.o];exact hlt
   obtain⟨b,off,rfl,hbz,hcl⟩:=HS.o.some (by rw[up_length];omega);have ci:wr.cell? ⟨b,off+j,none⟩=some (.int .i64 (c[j]:Nat)):=(HBW.o.cell (p:=⟨b,off+j,none⟩) hbz).trans (up_get hcl j hjc);have HT1:=hideH (trees_yes c j hjc);have HT0:=hideH (trees_no c j hjc);generalize c[j]=cj at ci HT1 HT0;clear hcl hjc;by_cases h0:0<cj
   ·have h0':(0:Int)<(cj:Int):=by omega
    go_wp2_with (at_builtin;refine wpList_append_own _ rfl (.tmp 15) (.tmp 20) 200 rfl w.heap.size 204 i0 _ 2 32 underlying200 hi hz0 hz1 hz2 rfl (by decide) _ _ _ rfl ((HO.o.alloc _).alloc _) ⟨wr.heap.size+1,0,none⟩ 1 1 [.int .i64 (cj:Nat),.slice (some ⟨wr.heap.size,0,none⟩) 1 1] rfl rfl ?c1 (two_one rfl rfl) (by unfold maxLen;omega) (by omega) (by simp;omega) ?_)
    case c1 =>
     have:=two_new (wr.alloc (.cells #[.int .i64 (j:Nat)] 3)) (.int .i64 (cj:Nat)) (.slice (some ⟨wr.heap.size,0,none⟩) 1 1) 204
     simpa using this
    intro v' w2 hown hgrow _;have HO2:=hideH (OwnT.snoc (x:=((cj,[j]),.slice (some ⟨wr.heap.size,0,none⟩) 1 1)) hown)
    have HB2:Hid (Below w.heap.size w w2):=by
     refine((HBW.o.alloc hwz _).alloc (by simp;omega) _).grown hgrow (by simp;omega) ?_;intro k hk;exact(World.ownsRow.lt HO.o k hk).1
    have hk1:Keeps wr (wr.alloc (.cells #[.int .i64 (j:Nat)] 3)):=Keeps.below ((Below.refl _ _).alloc nl _);have hk2:=hk1.trans (Keeps.below ((Below.refl _ (wr.alloc (.cells #[.int .i64 (j:Nat)] 3))).alloc nl (.cells #[.int .i64 (cj:Nat),.slice (some ⟨wr.heap.size,0,none⟩) 1 1] 204)));have hk3:=Keeps.grown hgrow (((HO.o.alloc _).alloc _).rowT (by decide))
    have HY2:Hid (Syms w2 (m++[((cj,[j]),.slice (some ⟨wr.heap.size,0,none⟩) 1 1)])):=by
     intro x hx
     rcases List.mem_append.1 hx with hx|hx
     ·exact(HY.o x hx).keeps (hk2.trans hk3)
     ·rw[List.mem_singleton.1 hx]
      exact((Sym.one wr j).keeps (Keeps.below ((Below.refl _ _).alloc nl _))).keeps hk3
    clear hown hgrow hk1 hk2 hk3;(go_wp2_with fail)
    go_roundw
    case rel=>exact⟨j+1,m++[((cj,[j]),.slice (some ⟨wr.heap.size,0,none⟩) 1 1)],by go_num,by omega,by rw[HT1.o h0,<-HM.o];unfold mt;rw[List.map_append];rfl,HO2.o,HY2.o,HB2.o⟩
    case measure=>simp[intOf];omega
   ·have h0':cj=0:=by omega
    subst h0';(go_wp2_with fail)
    go_roundw
    case rel=>exact⟨j+1,m,by go_num,by omega,by rw[HT0.o h0];exact HM.o,HO.o,HY.o,HBW.o⟩
    case measure=>simp[intOf];omega
  ·obtain rfl:j=n:=by omega
   go_wp2_with fail
   go_ret;exact⟨_,m,rfl,HM.o,HO.o,HY.o,HBW.o⟩
end Hf
namespace Hf
open Go.RowKit Go.Shelf
shelf_lay_g Lays8.n4 Nm8 4 at Tryz 193 as Tryz.growI
theorem Tryz.infoInt:(prog.info? 3).map (fun i=>(i.zero,i.size,i.bytes))=some (some (.int .i64 0),1,8):=by kernel_rfl
def nums (s:List Nat):List Value:=s.map fun (x:Nat)=>Value.int .i64 (x:Int)
def OwnY (W:World) (base:Nat) (v:Value) (s:List Nat):Prop:=W.ownsRow base 3 1 v s.length (nums s)
theorem grow_any (n:Nat) (w:World) (h0:0<n) (hn:n<=1000) :
  Calls prog 193 #[.slice none 0 0,.int .i64 n] w fun e w'=>∃ v,e=.returned v/\OwnY w' w.heap.size v []/\Below w.heap.size w w':=by
 obtain⟨i0,hi,hz0,hz1,hz2⟩:=info_parts Tryz.infoInt;refine(Any8.slices_Grow_grow Tryz.growI i0 (.int .i64 0) hi hz0 (by rw[hz1];decide) none 0 0 n [] w nl (by omega) (by rw[hz2];omega) (by omega) (by simp) (fun _=>rfl) (fun a ha=>by cases ha)).mono ?_;rintro e w' ⟨rfl,rfl⟩;have hge:=grownCap_ge w (0+n) 0 (Tryz.growI_ren.t 25);have hle:=grownCap_le_maxLen w (0+n) 0 (Tryz.growI_ren.t 25) (by unfold maxLen;omega);refine⟨_,rfl,?_,(Below.refl _ _).drew.alloc nl _⟩
 exact World.ownsRow_made w.drew _ _ nl hle (by
  have hc1:(Value.int IntKind.i64 0).cells.size=1:=rfl;rw[Nat.zero_add]at hge;simp[Builtin.zeroCells,hc1]
  omega)
theorem nums_length (s:List Nat):(nums s).length=s.length:=List.length_map ..
theorem nums_one (s:List Nat):∀ u∈nums s,u.oneCell'=true:=by
 intro u hu;obtain⟨x,_,rfl⟩:=List.mem_map.1 hu;rfl
theorem Sym.news {W:World} {g:Nat} {s:List Nat} (hc:∀ j (h:j<s.length),W.cell? ⟨g,j,none⟩=some (.int .i64 (s[j]:Nat))):∀ j u,(nums s)[j]? = some u->W.cell? ((⟨g,0,none⟩:Addr).add j)=some u:=by
 intro j u hu
 have hj:j<s.length:=by
  have:=(List.getElem?_eq_some_iff.1 hu).1
  rwa[nums_length]at this
 unfold nums at hu;rw[List.getElem?_map,List.getElem?_eq_getElem hj]at hu;rw[Addr.add_lit,Nat.zero_add,hc j hj];exact hu
theorem OwnY.sym {W:World} {base:Nat} {v:Value} {s:List Nat} (h:OwnY W base v s) (h0:0<s.length):Sym W v s:=by
 obtain⟨_,h⟩:=h
 rcases h with⟨_,h⟩|⟨g,cap,cur,hv,_,hb,hn,_,hs,ht⟩
 ·omega
 ·refine⟨g,cap,cur,hv,hb,hn,fun j hj=>?_⟩
  have:(nums s)[j]? = some (.int .i64 (s[j]:Nat)):=by
   unfold nums;rw[List.getElem?_map,List.getElem?_eq_getElem hj];rfl
  rw[<-ht,List.getElem?_take_of_lt (by omega),Array.getElem?_toList]at this;exact this
theorem OwnY.app {W:World} {base:Nat} {v:Value} {s t:List Nat} (h:W.ownsRow base 3 1 v (s.length+t.length) (nums s++nums t)):OwnY W base v (s++t):=by
 unfold OwnY;rw[List.length_append];unfold nums at h ⊢;rw[List.map_append];exact h
def tot (a b:List Nat) (i:Nat):Nat:=if i=0 then 0 else if i=1 then a.length else a.length+b.length
def pre (a b:List Nat) (i:Nat):List Nat:=if i=0 then [] else if i=1 then a else a++b
theorem concat_any (gb ga ca gc cc:Nat) (a b:List Nat) (t:TypeId) (w:World) (h0:0<a.length) (ha:a.length<=257) (hb:b.length<=257) (hg:w.heap[gb]? = some (.cells #[.slice (some ⟨ga,0,none⟩) a.length ca,.slice (some ⟨gc,0,none⟩) b.length cc] t (0,0)))
  (hga:ga<w.heap.size) (hgc:gc<w.heap.size) (hca:∀ j (h:j<a.length),w.cell? ⟨ga,j,none⟩=some (.int .i64 (a[j]:Nat))) (hcc:∀ j (h:j<b.length),w.cell? ⟨gc,j,none⟩=some (.int .i64 (b[j]:Nat))) :
  Calls prog 162 #[.slice (some ⟨gb,0,none⟩) 2 2] w fun e w'=>∃ v,e=.returned v/\Sym w' v (a++b)/\Below w.heap.size w w':=by
 obtain⟨i0,hi,hz0,hz1,hz2⟩:=info_parts Tryz.infoInt;have hgb:=lt_row hg;have c0:w.cell? ⟨gb,0,none⟩=some (.slice (some ⟨ga,0,none⟩) a.length ca):=cell_of_row w _ 0 _ _ _ hg;have c1:w.cell? ⟨gb,1,none⟩=some (.slice (some ⟨gc,0,none⟩) b.length cc):=cell_of_row w _ 1 _ _ _ hg;have HC0:=hideH (fun (W:World) (h:Below w.heap.size w W)=>(h.cell (p:=⟨gb,0,none⟩) hgb).trans c0);have HC1:=hideH (fun (W:World) (h:Below w.heap.size w W)=>(h.cell (p:=⟨gb,1,none⟩) hgb).trans c1);have HNA:=hideH (fun (W:World) (h:Below w.heap.size w W)=>Sym.news (W:=W) (g:=ga) (s:=a) fun j hj=>(h.cell (p:=⟨ga,j,none⟩) hga).trans (hca j hj));have HNB:=hideH (fun (W:World) (h:Below w.heap.size w W)=>Sym.news (W:=W) (g:=gc) (s:=b) fun j hj=>(h.cell (p:=⟨gc,j,none⟩) hgc).trans (hcc j hj));have HLA:=hideH (nums_length a);have HLB:=hideH (nums_length b);have HFIN:=hideH (fun (W:World) v (h:OwnY W w.heap.size v (a++b))=>h.sym (by rw[List.length_append];omega));have HT1:Hid (tot a b 1=a.length):=rfl;have HT2:Hid (tot a b 2=a.length+b.length):=rfl;clear hg hca hcc;obtain⟨na,hna⟩:∃ na,na=a.length:=⟨_,rfl⟩;obtain⟨nb,hnb⟩:∃ nb,nb=b.length:=⟨_,rfl⟩;have EA:=hideH hna;have EB:=hideH hnb;rw[<-hna]at h0 ha c0 HC0 HT1 HT2;rw[<-hnb]at hb c1 HC1 HT2;clear hna hnb;go_enter func162,ntmps162
 go_wp2_with fail
 go_loopw [11,3,5] (fun iv sv _ wr=>∃ i:Nat,iv=.int .i64 i/\i<=2/\sv=.int .i64 (tot a b i:Nat)/\wr=w) (fun iv _ _ _=>2-(intOf iv).toNat)
 case atStart=>exact⟨0,rfl,by omega,rfl,rfl⟩
 case round =>
  obtain⟨i,rfl,hi2,rfl,hw⟩:=hrel;subst wr
  have h3:i=0∨i=1∨i=2:=by omega
  rcases h3 with rfl|rfl|rfl
  ·have HE:Hid (tot a b 0=0):=rfl
   rw[HE.o]
   have hx:decide ((na:Int)<0)=false:=by simp
   go_wp2_with fail
   go_roundw
   case rel=>exact⟨1,rfl,by omega,by rw[HT1.o],by trivial⟩
   case measure=>simp[intOf]
  ·rw[HT1.o]
   have hx:decide ((na:Int)+nb<0)=false:=by simp;omega
   go_wp2_with fail
   go_roundw
   case rel=>exact⟨2,rfl,by omega,by rw[HT2.o];first|rfl|simp,by trivial⟩
   case measure=>simp[intOf]
  ·rw[HT2.o]
   have hsz:((na+nb:Nat):Int)=(na:Int)+nb:=by omega
   go_wp2_with fail
   refine(grow_any (na+nb) _ (by omega) (by omega)).mono ?_;rintro e w1 ⟨v1,rfl,ho1,hb1⟩;have HO1:=hideH ho1;have HB1:=hideH hb1;clear ho1 hb1
   go_wp2_with fail
   go_loopw [27,6,8] (fun iv tv _ wr=>∃ i:Nat,iv=.int .i64 i/\i<=2/\OwnY wr w.heap.size tv (pre a b i)/\Below w.heap.size w wr) (fun iv _ _ _=>2-(intOf iv).toNat)
   case atStart=>exact⟨0,rfl,by omega,HO1.o,HB1.o⟩
   case round =>
    obtain⟨i,rfl,hi2,ho,hbw⟩:=hrel;have HO:=hideH ho;have HBW:=hideH hbw;clear ho hbw;have h3:i=0∨i=1∨i=2:=(by omega)
    rcases h3 with rfl|rfl|rfl
    ·skip
     have HE:Hid (OwnY wr w.heap.size u6 []):=HO.o;have ci:=HC0.o wr HBW.o;have hwz:=HBW.o.size
     go_wp2_with (at_builtin;refine wpList_append_own _ rfl (.tmp 31) (.tmp 32) 202 rfl w.heap.size 3 i0 (.int .i64 0) 1 8 underlying202 hi hz0 hz1 hz2 rfl (by decide) _ _ _ rfl HE.o ⟨ga,0,none⟩ na ca (nums a) rfl (by rw[HLA.o,<-EA.o];omega) (HNA.o wr HBW.o) (nums_one _) (by unfold maxLen;simp only[List.length_nil];omega) (by simp only[List.length_nil];omega) hwz ?_)
     intro v' w2 hown hgrow _
     have HO2:Hid (OwnY w2 w.heap.size v' ([]++a)):=by
      rw[EA.o]at hown;exact OwnY.app (s:=[]) (by rw[List.length_nil,Nat.zero_add];exact hown)
     have HB2:Hid (Below w.heap.size w w2):=by
      refine HBW.o.grown hgrow hwz ?_;intro k hk;exact(World.ownsRow.lt HE.o k hk).1
     clear hown hgrow;(go_wp2_with fail)
     go_roundw
     case rel=>exact⟨1,rfl,by omega,HO2.o,HB2.o⟩
     case measure=>simp[intOf]
    ·skip
     have HE:Hid (OwnY wr w.heap.size u6 a):=HO.o;have ci:=HC1.o wr HBW.o;have hwz:=HBW.o.size
     go_wp2_with (at_builtin;refine wpList_append_own _ rfl (.tmp 31) (.tmp 32) 202 rfl w.heap.size 3 i0 (.int .i64 0) 1 8 underlying202 hi hz0 hz1 hz2 rfl (by decide) _ _ _ rfl HE.o ⟨gc,0,none⟩ nb cc (nums b) rfl (by rw[HLB.o,<-EB.o];omega) (HNB.o wr HBW.o) (nums_one _) (by unfold maxLen;rw[<-EA.o];omega) (by rw[<-EA.o];omega) hwz ?_)
     intro v' w2 hown hgrow _
     have HO2:Hid (OwnY w2 w.heap.size v' (a++b)):=by
      rw[EB.o]at hown;exact OwnY.app hown
     have HB2:Hid (Below w.heap.size w w2):=by
      refine HBW.o.grown hgrow hwz ?_;intro k hk;exact(World.ownsRow.lt HE.o k hk).1
     clear hown hgrow;(go_wp2_with fail)
     go_roundw
     case rel=>exact⟨2,rfl,by omega,HO2.o,HB2.o⟩
     case measure=>simp[intOf]
    ·have HE:Hid (OwnY wr w.heap.size u6 (a++b)):=HO.o
     (go_wp2_with fail);go_ret;exact⟨_,rfl,HFIN.o _ _ HE.o,HBW.o⟩
end Hf
namespace Hf
open In (IsI irow Ints made_ints)
def ns (l:List Tree):Nat:=(l.map fun t=>t.2.length).sum
theorem ns_perm {l l':List Tree} (p:l.Perm l'):ns l=ns l':=(p.map _).sum_nat
theorem ns_join (l:List Tree) (h:2<=l.length):ns (join l)=ns l:=by
 rw[ns_perm (two_perm l h),ns_perm (join_perm l)];unfold ns both;simp only[List.map_cons,List.sum_cons,List.length_append];omega
theorem ns_trees (c:List Nat):∀ i,ns (trees c i)<=i
 |0=>nl
 |i+1=>by
  have:=ns_trees c i
  rw[trees]
  split
  ·unfold ns at this ⊢
   rw[List.map_append,List.sum_append];simp;exact this
  ·omega
theorem ns_mem (l:List Tree) (t:Tree) (h:t∈l):t.2.length<=ns l:=le_sum _ _ (List.mem_map.2 ⟨t,h,rfl⟩)
theorem fib_ge:∀ k,k+1<=fib (k+2)
 |0=>by decide
 |1=>by decide
 |k+2=>by
  have h1:=fib_ge k;have h2:=fib_ge (k+1);rw[show fib (k+2+2)=fib (k+2)+fib (k+1+2) from rfl];omega
theorem Inv.small {l:List Tree} {d:List Nat} {n:Nat} (h:Inv l d n) (s:Nat):d.getD s 0<=n:=by
 rcases h.bound s with h|h
 ·unfold dep at h
  omega
 ·have:=fib_ge (dep d s)
  unfold dep at h this;omega
theorem Inv.weights {l:List Tree} {d:List Nat} {n:Nat} (h:Inv l d n) (h2:2<=l.length):(first l).1+(second l).1<=n:=by
 have:=(h.perm (two_perm l h2)).sum
 simp only[List.map_cons,List.sum_cons]at this;omega
theorem taken (m:List MT) (k:Nat) (hn:m.length=k+1):∃ x,m[least (mt m) (k+1)]? = some x/\x∈m/\x.1=first (mt m)/\mt (m.eraseIdx (least (mt m) (k+1)))=rest1 (mt m)/\(m.eraseIdx (least (mt m) (k+1))).length=k/\∀ y∈m.eraseIdx (least (mt m) (k+1)),y∈m:=by
 have hl:least (mt m) m.length<m.length:=by
  have:=least_lt (mt m) (by rw[mt_length];omega)
  rw[mt_length]at this;exact this
 rw[<-hn];refine⟨m[least (mt m) m.length],List.getElem?_eq_getElem hl,List.getElem_mem hl,first_mt m hl,rest_mt m,?_,fun y hy=>List.mem_of_mem_eraseIdx hy⟩;rw[List.length_eraseIdx,if_pos hl];omega
theorem Syms.sub {W:World} {m k:List MT} (h:Syms W m) (hs:∀ y∈k,y∈m):Syms W k:=fun x hx=>h x (hs x hx)
theorem Keeps.wr {g gl:Nat} {w w':World} (h:Wr g gl w w') {cs cl:Array Value} {t u:TypeId} (hg:w.heap[g]? = some (.cells cs t (0,0))) (ht:t≠3) (hl:w.heap[gl]? = some (.cells cl u (0,0))) (hu:u≠3):Keeps w w':=fun k cur e=>by
 rw[h.block k (lt_row e) (by
  rintro rfl;rw[hg]at e;simp at e
  exact ht e.2) (by
  rintro rfl;rw[hl]at e;simp at e
  exact hu e.2)]
 exact e
theorem OwnT.of {W:World} {e:TypeId} {base g cap n:Nat} {m:List MT} {cur:Array Value} (hn:m.length=n) (hg:base<=g) (hb:W.heap[g]? = some (.cells cur e (0,0))) (hc:n<=cap) (hm:cap<=maxLen) (hs:cur.size=cap*2) (ht:cur.toList.take (n*2)=cells m):OwnT W e base (.slice (some ⟨g,0,none⟩) n cap) m:=by
 subst hn;exact⟨cells_length m,.inr ⟨g,cap,cur,rfl,hg,hb,hc,hm,hs,ht⟩⟩
theorem OwnT.parts {W:World} {e:TypeId} {base:Nat} {v:Value} {m:List MT} (h:OwnT W e base v m) (h0:0<m.length):∃ g cap cur,v=.slice (some ⟨g,0,none⟩) m.length cap/\base<=g/\m.length<=cap/\cap<=maxLen/\W.heap[g]? = some (.cells cur e (0,0))/\cur.size=cap*2/\cur.toList.take (m.length*2)=cells m:=by
 obtain⟨_,h⟩:=h
 rcases h with⟨_,h⟩|⟨g,cap,cur,hv,hg,hb,hn,hm,hs,ht⟩
 ·omega
 ·exact⟨g,cap,cur,hv,hg,hn,hm,hb,hs,ht⟩
theorem sum_all (c:List Nat) (hl:c.length<=257) (hm:∀ x∈c,x<=10000):c.sum<=2570000:=by
 have:=sum_le c 10000 hm
 omega
end Hf
namespace Hf
open In (IsI irow Ints made_ints)
structure Mid (wr W:World) (g gl cap k:Nat) (m:List MT) (d:List Nat) (a5 b5 a6 b6:Value):Prop where
 row:∃ cur:Array Value,W.heap[g]? = some (.cells cur 204 (0,0))/\cur.size=cap*2/\cur.toList.take (k*2)=cells m
 len:IsI W gl 2 (up d)
 wrt:Wr g gl wr W
 kp:Keeps wr W
 p5:W.heap[wr.heap.size]? = some (.cells #[a5,b5] 204 (0,0))
 p6:W.heap[wr.heap.size+1]? = some (.cells #[a6,b6] 204 (0,0))
 hg:g<wr.heap.size
 hl:gl<wr.heap.size
theorem Mid.start {wr:World} {g gl cap k:Nat} {m:List MT} {d:List Nat} {cur:Array Value} (hb:wr.heap[g]? = some (.cells cur 204 (0,0))) (hs:cur.size=cap*2) (ht:cur.toList.take (k*2)=cells m) (hd:IsI wr gl 2 (up d)) :
  Mid wr ((wr.alloc (.cells #[.int .i64 0,.slice none 0 0] 204)).alloc (.cells #[.int .i64 0,.slice none 0 0] 204)) g gl cap k m d (.int .i64 0) (.slice none 0 0) (.int .i64 0) (.slice none 0 0):=by
 have hB:Below wr.heap.size wr ((wr.alloc (.cells #[.int .i64 0,.slice none 0 0] 204)).alloc (.cells #[.int .i64 0,.slice none 0 0] 204)):=((Below.refl _ _).alloc nl _).alloc (by simp) _;refine⟨⟨cur,(hB.block g (lt_row hb)).trans hb,hs,ht⟩,hd.below hB hd.lt,Wr.of hB,Keeps.below hB,(Below.heap_alloc _ _ _ (by simp)).trans (heap_alloc_new wr _),?_,lt_row hb,hd.lt⟩
 have:=heap_alloc_new (wr.alloc (.cells #[.int .i64 0,.slice none 0 0] 204)) (.cells #[.int .i64 0,.slice none 0 0] 204)
 rw[show (wr.alloc (.cells #[.int .i64 0,.slice none 0 0] 204)).heap.size=wr.heap.size+1 by simp]at this;exact this
theorem Mid.take {wr W W':World} {g gl cap k k':Nat} {m m':List MT} {d d':List Nat} {a5 b5 a6 b6:Value} (h:Mid wr W g gl cap k m d a5 b5 a6 b6) (hr:∃ cur:Array Value,W'.heap[g]? = some (.cells cur 204 (0,0))/\cur.size=cap*2/\cur.toList.take (k' * 2)=cells m') (hd:IsI W' gl 2 (up d')) (hw:Wr g gl W W'):Mid wr W' g gl cap k' m' d' a5 b5 a6 b6:=by
 obtain⟨cur,hb,_⟩:=h.row;have h1:=h.hg;have h2:=h.hl;exact⟨hr,hd,h.wrt.trans hw,h.kp.trans (Keeps.wr hw hb (by decide) h.len (by decide)),(hw.block _ (lt_row h.p5) (by omega) (by omega)).trans h.p5,(hw.block _ (lt_row h.p6) (by omega) (by omega)).trans h.p6,h1,h2⟩
theorem Mid.set5 {wr W:World} {g gl cap k:Nat} {m:List MT} {d:List Nat} {a5 b5 a6 b6:Value} (h:Mid wr W g gl cap k m d a5 b5 a6 b6) (x y:Value):Mid wr ((W.setCell ⟨wr.heap.size,0,none⟩ x).setCell ⟨wr.heap.size,1,none⟩ y) g gl cap k m d x y a6 b6:=by
 obtain⟨cur,hb,hs,ht⟩:=h.row;have h1:=h.hg;have h2:=h.hl;have e1:=heap_setCell_same W wr.heap.size 0 _ _ x h.p5;have e2:=heap_setCell_same _ wr.heap.size 1 _ _ y e1;refine⟨⟨cur,?_,hs,ht⟩,(h.len.set_other _ _ (by show gl≠wr.heap.size;omega)).set_other _ _ (by show gl≠wr.heap.size;omega),(h.wrt.new nl _ _).new nl _ _,(h.kp.trans (Keeps.set h.p5 (by decide) _ _)).trans (Keeps.set e1 (by decide) _ _),e2,?_,h1,h2⟩
 ·rw[heap_setCell_other _ _ _ _ (by show g≠wr.heap.size;omega),heap_setCell_other _ _ _ _ (by show g≠wr.heap.size;omega)]
  exact hb
 ·rw[heap_setCell_other _ _ _ _ (by show wr.heap.size+1≠wr.heap.size;omega),heap_setCell_other _ _ _ _ (by show wr.heap.size+1≠wr.heap.size;omega)]
  exact h.p6
theorem Mid.set6 {wr W:World} {g gl cap k:Nat} {m:List MT} {d:List Nat} {a5 b5 a6 b6:Value} (h:Mid wr W g gl cap k m d a5 b5 a6 b6) (x y:Value):Mid wr ((W.setCell ⟨wr.heap.size+1,0,none⟩ x).setCell ⟨wr.heap.size+1,1,none⟩ y) g gl cap k m d a5 b5 x y:=by
 obtain⟨cur,hb,hs,ht⟩:=h.row;have h1:=h.hg;have h2:=h.hl;have e1:=heap_setCell_same W (wr.heap.size+1) 0 _ _ x h.p6;have e2:=heap_setCell_same _ (wr.heap.size+1) 1 _ _ y e1;refine⟨⟨cur,?_,hs,ht⟩,(h.len.set_other _ _ (by show gl≠wr.heap.size+1;omega)).set_other _ _ (by show gl≠wr.heap.size+1;omega),(h.wrt.new (by omega) _ _).new (by omega) _ _,(h.kp.trans (Keeps.set h.p6 (by decide) _ _)).trans (Keeps.set e1 (by decide) _ _),?_,e2,h1,h2⟩
 ·rw[heap_setCell_other _ _ _ _ (by show g≠wr.heap.size+1;omega),heap_setCell_other _ _ _ _ (by show g≠wr.heap.size+1;omega)]
  exact hb
 ·rw[heap_setCell_other _ _ _ _ (by show wr.heap.size≠wr.heap.size+1;omega),heap_setCell_other _ _ _ _ (by show wr.heap.size≠wr.heap.size+1;omega)]
  exact h.p5
theorem Mid.below {wr W W':World} {g gl cap k:Nat} {m:List MT} {d:List Nat} {a5 b5 a6 b6:Value} (h:Mid wr W g gl cap k m d a5 b5 a6 b6) (hb:Below W.heap.size W W'):Mid wr W' g gl cap k m d a5 b5 a6 b6:=by
 obtain⟨cur,hc,hs,ht⟩:=h.row;exact⟨⟨cur,(hb.block g (lt_row hc)).trans hc,hs,ht⟩,h.len.below hb h.len.lt,h.wrt.more hb,h.kp.trans (Keeps.below hb),(hb.block _ (lt_row h.p5)).trans h.p5,(hb.block _ (lt_row h.p6)).trans h.p6,h.hg,h.hl⟩
theorem Mid.cells5 {wr W:World} {g gl cap k:Nat} {m:List MT} {d:List Nat} {a5 b5 a6 b6:Value} (h:Mid wr W g gl cap k m d a5 b5 a6 b6):W.cell? ⟨wr.heap.size,0,none⟩=some a5/\W.cell? ⟨wr.heap.size,1,none⟩=some b5/\W.frozen? ⟨wr.heap.size,0,none⟩=false/\W.frozen? ⟨wr.heap.size,1,none⟩=false :=
 ⟨cell_of_row W _ 0 _ _ _ h.p5,cell_of_row W _ 1 _ _ _ h.p5,frozen_of_row W _ 0 _ _ h.p5,frozen_of_row W _ 1 _ _ h.p5⟩
theorem Mid.cells6 {wr W:World} {g gl cap k:Nat} {m:List MT} {d:List Nat} {a5 b5 a6 b6:Value} (h:Mid wr W g gl cap k m d a5 b5 a6 b6):W.cell? ⟨wr.heap.size+1,0,none⟩=some a6/\W.cell? ⟨wr.heap.size+1,1,none⟩=some b6/\W.frozen? ⟨wr.heap.size+1,0,none⟩=false/\W.frozen? ⟨wr.heap.size+1,1,none⟩=false :=
 ⟨cell_of_row W _ 0 _ _ _ h.p6,cell_of_row W _ 1 _ _ _ h.p6,frozen_of_row W _ 0 _ _ h.p6,frozen_of_row W _ 1 _ _ h.p6⟩
end Hf
namespace So
open Go.RowKit Go.Sort Go.Proofs
theorem mergeA_I (T:ByteArray) (cc:Nat) (blk cap a b:Nat) (d:Array Nat) (w:World) (hH:HoldsK encI 1 w blk 0 d) (hblk:blk<w.heap.size) (hab:a+1<b) (hb:b<=d.size) (hsz:d.size<=1048576) (hcap:Cap w cc T) (hcb0:cc≠blk) (hbd:∀ i,dF d i<T.size)
  (hr2:Ris (clI T) (a+1) b (dF d)) (hsep:Sep a (a+1) b (dF d)) :
  Calls prog 216 #[.slice (some ⟨blk,0,none⟩) d.size cap,.int .i64 a,.int .i64 (a+1:Nat),.int .i64 b,.func (.func 210) #[] #[.pointer (some ⟨cc,0,none⟩)]] w fun e w' =>
   e=.returned (.tuple #[])/\∃ n d' os,w'=sortWorldK encI 1 w blk 0 n d' os/\d'.size=d.size/\PermF a b (dF d) (dF d')/\Ris (clI T) a b (dF d'):=by
 have mixed:=mixed;have HST:=hideO (world_self hH);have HH:=hideO hH;have HCP:Hid (∀ (m:Nat) (dk:Array Nat) (os:Array Obj),Cap (sortWorldK encI 1 w blk 0 m dk os) cc T):=fun m dk os=>hcap.block (world_block m dk os hcap.lt hcb0);have HBD:=hideO hbd;clear hcap hcb0 hbd;have HR2:=hideO hr2;have HSP:=hideO hsep;clear hH hr2 hsep;obtain⟨z,hz⟩:∃ z,z=d.size:=⟨_,rfl⟩;have HZ:=hideO hz;rw[<-hz]at hb hsz ⊢;clear hz;obtain⟨f,hf⟩:∃ f,f=dF d:=⟨_,rfl⟩;have HFD:=hideO hf
 have HBF:Hid (∀ i,f i<T.size):=by
  unfold Hid;rw[hf];exact HBD.o
 rw[<-hf]at HR2 HSP ⊢;clear hf;obtain⟨m,hm⟩:∃ m,m=a+1:=⟨_,rfl⟩
 have hma:(m:Int)-(a:Int)=1:=by omega
 have ham:a<m:=by omega
 rw[<-hm]at hab HR2 HSP ⊢;have HM:=hideO hm;clear hm;go_enter func216,ntmps216
 go_wp2_with fail
 clear hma
 go_loopw [10,11] (fun u v wr=>∃ (i j n:Nat) (os:Array Obj),u=.int .i64 i/\v=.int .i64 j/\m<=i/\i<=j/\j<=b/\(m<i->lx (clI T) (f (i-1)) (f a))/\(j<b->lx (clI T) (f a) (f j))/\wr=sortWorldK encI 1 w blk 0 n d os) (fun u v _=>(intOf v).toNat-(intOf u).toNat)
 case atStart=>exact⟨m,b,0,#[],rfl,rfl,nl,by omega,nl,fun h=>absurd h (by omega),fun h=>absurd h (by omega),HST.o⟩
 case round =>
  obtain⟨i,j,n,os,rfl,rfl,hmi,hij,hjb,hlo,hhi,hwr⟩:=hrel;have HLO:=hideO hlo;have HHI:=hideO hhi;have HW:=hideO hwr;clear hlo hhi;by_cases hlt:i<j
  ·obtain⟨h,hh⟩:∃ h,h=(i+j)/2:=⟨_,rfl⟩
   have e1:((i:Int)+(j:Int))/2=(h:Int):=by omega
   have hhb:h<z:=by omega
   have hih:i<=h:=by omega
   have hhj:h<j:=by omega
   have hHj:HoldsK encI 1 wr blk 0 d:=by rw[hwr];exact world_holds HH.o hblk n d os rfl
   have hbw:blk<wr.heap.size:=by rw[hwr];exact Nat.lt_of_lt_of_le hblk (world_size n d os)
   obtain⟨x0c,x0f⟩:=cells_I hHj (i:=h) (by have:=HZ.o;omega);obtain⟨y0c,y0f⟩:=cells_I hHj (i:=a) (by have:=HZ.o;omega);obtain⟨x,hx⟩:∃ x,x=d[h]!:=⟨_,rfl⟩;obtain⟨y,hy⟩:∃ y,y=d[a]!:=⟨_,rfl⟩;have HXY:Hid (x=f h/\y=f a):=⟨by rw[hx,HFD.o];rfl,by rw[hy,HFD.o];rfl⟩;rw[<-hx]at x0c;rw[<-hy]at y0c;have g0:=fun n' os'=>cell_grown (a:=⟨blk,h,none⟩) hbw x0c n' os';have g2:=fun n' os'=>cell_grown (a:=⟨blk,a,none⟩) hbw y0c n' os'
   have hcc:wr.cell? ⟨cc,0,none⟩=some (.string T):=by rw[hwr];exact HCP.o _ _ _
   have hcw:cc<wr.heap.size:=Cap.lt hcc;have gc:=fun n' os'=>cell_grown (a:=⟨cc,0,none⟩) hcw hcc n' os';clear hcc hcw;have HCM:Hid (∀ W,Cap W cc T->Calls prog 210 #[.int .i64 x,.int .i64 y,.pointer (some ⟨cc,0,none⟩)] W fun e w'=>e=.returned (.int .i64 (cfI T x y))/\∃ q os',w'=grow (W.drewN q) os'):=fun W hW=>cmp_I T cc x y W hW (by rw[HXY.o.1];exact HBF.o _) (by rw[HXY.o.2];exact HBF.o _);have hneg:=cfI_neg T x y;obtain⟨r,hr⟩:∃ r,r=cfI T x y:=⟨_,rfl⟩;rw[<-hr]at hneg HCM
   have hz1:(h:Int)<(z:Int):=by omega
   have hz2:(a:Int)<(z:Int):=by omega
   have HCLS:=hideO (fun n' os'=>sortWorldK_grown_c encI 1 w blk 0 n n' d os os');rw[<-hwr]at HCLS;clear hr hx hy hwr hh x0c x0f y0c y0f hHj hbw
   cases hcb:clI T x y with
   |true =>
    rw[hcb]at hneg;have hlv:r<0:=of_decide_eq_true hneg
    have HL2:Hid (lx (clI T) (f h) (f a)):=by
     unfold Hid;rw[<-HXY.o.1,<-HXY.o.2];exact lx_yes hcb
    clear hneg;(go_wp2_with fail)
    go_quiet_grown (first|(go_at_call 210;refine Calls.grown_of (HCM.o _ (gc _ _))))
    have HW2:Hid (grow (wr.drewN nq) osq=sortWorldK encI 1 w blk 0 (n+nq) d (os++osq)):=HCLS.o nq osq;dsimp only;clear g0 g2 gc;(go_wp2_with fail)
    go_roundw
    case rel=>exact⟨h+1,j,n+nq,os++osq,by go_num,rfl,by omega,by omega,hjb,fun _=>HL2.o,HHI.o,HW2.o⟩
    case measure=>simp[intOf];omega
   |false =>
    rw[hcb]at hneg;have hlv:¬r<0:=of_decide_eq_false hneg
    have HL2:Hid (lx (clI T) (f a) (f h)):=by
     unfold Hid;have hpl:=HSP.o a h nl ham (by omega) (by omega);rw[<-HXY.o.1,<-HXY.o.2]at hpl ⊢;exact lx_no hcb hpl
    clear hneg;(go_wp2_with fail)
    go_quiet_grown (first|(go_at_call 210;refine Calls.grown_of (HCM.o _ (gc _ _))))
    have HW2:Hid (grow (wr.drewN nq) osq=sortWorldK encI 1 w blk 0 (n+nq) d (os++osq)):=HCLS.o nq osq;dsimp only;clear g0 g2 gc;(go_wp2_with fail)
    go_roundw
    case rel=>exact⟨i,h,n+nq,os++osq,rfl,rfl,hmi,by omega,by omega,HLO.o,fun _=>HL2.o,HW2.o⟩
    case measure=>simp[intOf];omega
  ·obtain rfl:i=j:=by omega
   have HRR:Hid (Ris (clI T) a b (rotF a m i f)):=by
    unfold Hid;have hmm:=HM.o;rw[hmm]at HR2 ⊢
    exact up_ris (clI_weak T) HR2.o (by omega) (by omega)
     (fun k h1 h2=>HR2.o.le h1 (show k<=i-1 by omega) (by omega) (clI_weak T) (HLO.o (by omega)))
     (fun k h1 h2=>HR2.o.ge (by omega) h1 h2 (clI_weak T) (HHI.o (by omega)))
   have HPP:Hid (PermF a b f (rotF a m i f)):=(rot_perm f (by omega) (by omega)).mono nl (by omega) hjb;clear hwr
   go_wp2_with fail
   go_loopw [13] (fun u wr2=>∃ (k n:Nat) (dk:Array Nat) (os:Array Obj),u=.int .i64 k/\a<=k/\k+1<=i/\dk.size=z/\dF dk=rotF a m (k+1) f/\wr2=sortWorldK encI 1 w blk 0 n dk os) (fun u _=>i-(intOf u).toNat)
   case atStart=>exact⟨a,n,d,os,rfl,nl,by omega,HZ.o.symm,by rw[HM.o,rot_up0];exact HFD.o.symm,HW.o⟩
   case round =>
    obtain⟨k,n2,dk,os2,rfl,hak,hki,hsk,hfk,hwr⟩:=hrel;have HSK:=hideO hsk;have HFK:=hideO hfk;obtain⟨ip,hip⟩:∃ ip,i=ip+1:=⟨i-1,by omega⟩;have eip:(i:Int)-1=(ip:Int):=(by omega);have hipw:IntKind.i64.wrap (ip:Int)=(ip:Int):=(by rw[IntKind.wrap_i64];omega);have HIP:=hideO hip;by_cases hlt2:k+1<i
    ·obtain⟨q,hq⟩:∃ q,q=k+1:=⟨_,rfl⟩
     have eq1:(k:Int)+1=(q:Int):=by omega
     have hH2:HoldsK encI 1 wr blk 0 dk:=by rw[hwr];exact world_holds HH.o hblk n2 dk os2 (hsk.trans HZ.o)
     obtain⟨x0c,x0f⟩:=cells_I hH2 (i:=k) (by omega);obtain⟨y0c,y0f⟩:=cells_I hH2 (i:=q) (by omega);obtain⟨x,hx⟩:∃ x,x=dk[k]!:=⟨_,rfl⟩;obtain⟨y,hy⟩:∃ y,y=dk[q]!:=⟨_,rfl⟩;have hsw:=sortWorldK_swp_c encI 1 w blk 0 encI_len n2 dk os2 hblk k q (by omega) (by omega);rw[<-hx,<-hy,<-hwr,Nat.zero_add,Nat.zero_add,Nat.mul_one,Nat.mul_one]at hsw;rw[<-hx]at x0c;rw[<-hy]at y0c;have HSW:=hideO hsw;have hkz:(k:Int)<(z:Int):=(by omega);have hqz:(q:Int)<(z:Int):=(by omega);have hqw:IntKind.i64.wrap (q:Int)=(q:Int):=(by rw[IntKind.wrap_i64];omega);have hkip:(k:Int)<(ip:Int):=(by omega);have hkq:k<q:=(by omega);have HQ:=hideO hq
     have HROT:Hid (So.swp (rotF a m (k+1) f) k q=rotF a m (k+2) f):=by
      unfold Hid;rw[HM.o,hq];exact rot_up a k f hak
     clear hwr hH2 hx hy hsw hsk hfk hip hq;(go_wp2_with fail)
     go_region
     all_goals (try go_wp2_with fail)
     all_goals go_roundw
     case rel =>
      refine⟨q,n2+1,Go.Sort.swp dk k q,os2,rfl,by omega,by have:=HQ.o;omega,by rw[Go.Sort.size_swp];exact HSK.o,?_,HSW.o⟩;rw[dF_swp dk k q (by have:=HSK.o;have:=HQ.o;omega) (by have:=HSK.o;have:=HQ.o;omega),HFK.o,HROT.o,HQ.o]
     case measure=>have:=HQ.o;simp[intOf];omega
    ·have hkip:¬(k:Int)<(ip:Int):=by omega
     have HWW:=hideO hwr
     have HE:Hid (dF dk=rotF a m i f):=by
      unfold Hid;rw[hfk,show k+1=i by omega]
     clear hwr hsk hfk hip;(go_wp2_with fail);refine bodyPost_ret (v:=.tuple #[]) (by simp[results,results216,go_sem]) rfl ⟨rfl,n2,dk,⟨os2,HWW.o⟩,HSK.o,by rw[HE.o];exact HPP.o,by rw[HE.o];exact HRR.o⟩
end So
end Go.Proofs.YtbdcffjcogglbaaGreatDoor
