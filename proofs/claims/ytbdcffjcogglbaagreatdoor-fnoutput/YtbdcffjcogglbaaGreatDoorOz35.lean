import Derived.Test.YtbdcffjcogglbaaGreatDoorOz24
import Derived.Test.YtbdcffjcogglbaaGreatDoorOz27
import Derived.Test.YtbdcffjcogglbaaGreatDoorOz32
set_option maxRecDepth 100000
set_option maxHeartbeats 8000000
namespace Go.Proofs.YtbdcffjcogglbaaGreatDoor
open Go.RowKit
open Go.Proofs.Tryz
namespace Up
open Pk
open Hf (up)
open Bi (openR getR open_impl)
open Go.Proofs.YtbdcffjcogglbaaGreatDoor.So (bwtA unR unR_case unbwt_impl tOut)
open Fr (fbackR frontBack_impl)
open Ze (backR zerosBack_impl backR_len)
open In (Ints)
theorem ints_keep {w w':World} {a:Option Addr} {l:List Int} (h:Ints w w.heap.size a l) (hb:Below w.heap.size w w'):Ints w' w'.heap.size a l:=(h.below hb).mono hb.size
theorem lt_blk {w:World} {g:Nat} {x:Obj} (h:w.heap[g]? = some x):g<w.heap.size:=(Array.getElem?_eq_some_iff.1 h).1
theorem blk_keep {w w':World} {g:Nat} {x:Obj} (h:w.heap[g]? = some x) (hb:Below w.heap.size w w'):w'.heap[g]? = some x:=(hb.block g (lt_blk h)).trans h
theorem low_keep {w0 w w':World} (h:Below w0.heap.size w0 w) (hb:Below w.heap.size w w'):Below w0.heap.size w0 w':=h.trans (hb.mono h.size)
def Glob (w:World) (ev:Value):Prop:=0 < w.heap.size/\w.cell? ⟨0,0,none⟩=some ev
theorem glob_keep {w w':World} {ev:Value} (h:Glob w ev) (hb:Below w.heap.size w w'):Glob w' ev:=⟨Nat.lt_of_lt_of_le h.1 hb.size,(hb.cell (p:=⟨0,0,none⟩) h.1).trans h.2⟩
theorem glob_alloc {w:World} {ev:Value} {o:Obj} (h:Glob w ev):(w.alloc o).cell? ⟨0,0,none⟩=some ev:=(glob_keep h ((Below.refl _ _).alloc nl o)).2
theorem four {W:World} {g:Nat} {x y z u:Value} {t:TypeId} (h:W.heap[g]? = some (.cells #[x,y,z,u] t (0,0))):W.cell? ⟨g,0,none⟩=some x/\W.cell? ⟨g,1,none⟩=some y/\W.cell? ⟨g,2,none⟩=some z/\W.cell? ⟨g,3,none⟩=some u :=
 ⟨cell_of_row W g 0 _ _ _ h,cell_of_row W g 1 _ _ _ h,cell_of_row W g 2 _ _ _ h,cell_of_row W g 3 _ _ _ h⟩
theorem openR_size (p:ByteArray) (m:Int) (hp:p.size<=8000):(openR p m).size<=64000:=by
 by_cases h:8000<p.size∨m<0∨8*(p.size:Int)<m
 ·rw[Bi.openR_no _ _ h]
  decide
 ·obtain⟨k,rfl⟩:=Int.eq_ofNat_of_zero_le (show 0<=m by omega)
  rw[Bi.openR_yes _ _ (by omega) (by omega)];refine Nat.le_trans (Nat.le_of_eq (Sh.strF_size _ _)) ?_;omega
theorem fback_len (l:List Int):(fbackR l).length<=400:=by
 cases h:Ze.numsR l 255 with
 |false=>rw[Fr.fbackR_no h];simp
 |true =>
  rw[Fr.fbackR_yes h];have h1:=Fr.kst_full l (Ze.upTo_yes (Ze.numsR_yes h).2) l.length nl;rw[List.take_length]at h1
  have:=(Ze.numsR_yes h).1
  omega
theorem size_list (l:List UInt8):(⟨l.toArray⟩:ByteArray).size=l.length:=by
 show l.toArray.size=_
 simp
theorem unR_size {t b:ByteArray} {a c:Int} (ht:t.size<=400) (h:unR t a=.agg #[.string b,.int .i64 0,.int .i64 c]):b.size<=400:=by
 unfold unR tOut at h
 split at h
 ·simp at h
  rw[<-h.1];decide
 ·split at h
  ·simp at h
   rw[<-h.1];decide
  ·split at h
   ·simp at h
    rw[<-h.1,So.backT_size];exact ht
   ·simp at h
    rw[<-h.1];decide
theorem back_any (x0 x1 x2 x3:Int) (l:List Int) (a:Option Addr) (cap n:Nat) (p:ByteArray) (ev:Value) (w:World) (hl:Ints w w.heap.size a l) (hn:n=l.length) (h4:n<=400) (hp:p.size<=8000) (h0:0 < w.heap.size) (hg:w.cell? ⟨0,0,none⟩=some ev) :
  Calls prog 154 #[.agg #[.int .i64 x0,.int .i64 x1,.int .i64 x2,.int .i64 x3],.slice a n cap,.string p] w fun e w'=>(∃ r v,e=.returned (.tuple #[.string r,v])/\(v=.nilIface∨v=ev)/\r.size<=8000/\∀ s b,Good s b->l=up (lenS b)->x1=((bwtA b:Nat):Int)->x2=((symS b).length:Int)->p=bitsS b->r=b/\v=.nilIface)/\Below w.heap.size w w':=by
 have HL:=hideP hl;have HN:=hideP hn;have HG:Hid (Glob w ev):=⟨h0,hg⟩;have BW:=hideP (Below.refl w.heap.size w);clear hl hn hg;go_enter func154,ntmps154
 go_wp2_with fail
 have hb1:Below w.heap.size w (w.alloc (.cells #[.int .i64 x0,.int .i64 x1,.int .i64 x2,.int .i64 x3] 113)):=(Below.refl _ _).alloc nl _;have X:Hid ((w.alloc (.cells #[.int .i64 x0,.int .i64 x1,.int .i64 x2,.int .i64 x3] 113)).heap[w.heap.size]? = some (.cells #[.int .i64 x0,.int .i64 x1,.int .i64 x2,.int .i64 x3] 113 (0,0))):=heap_alloc_new w _;generalize hww:w.alloc (.cells #[.int .i64 x0,.int .i64 x1,.int .i64 x2,.int .i64 x3] 113)=w1 at hb1 X ⊢;clear hww;have HL_:=hideP (ints_keep HL.o hb1);have BW_:=hideP (low_keep BW.o hb1);have HG_:=hideP (glob_keep HG.o hb1);clear HL BW HG;have HL:=HL_;clear HL_;have BW:=BW_;clear BW_;have HG:=HG_;clear HG_;clear hb1;generalize w.heap.size=gx at X ⊢;refine(open_impl p _ w1 (by omega)).mono ?_;rintro e w2 ⟨rfl,hb2⟩;have HL_:=hideP (ints_keep HL.o hb2);have BW_:=hideP (low_keep BW.o hb2);have HG_:=hideP (glob_keep HG.o hb2);have X_:=hideP (blk_keep X.o hb2);clear HL BW HG X;have HL:=HL_;clear HL_;have BW:=BW_;clear BW_;have HG:=HG_;clear HG_;have X:=X_;clear X_;clear hb2;obtain⟨bits,hbits⟩:∃ x,x=openR p (8*(p.size:Int)):=⟨_,rfl⟩;rw[<-hbits];have HBT:=hideP hbits;clear hbits
 have hsz:bits.size<=64000:=by rw[HBT.o];exact openR_size p _ hp
 obtain⟨cx0,cx1,cx2,cx3⟩:=four X.o;have HGI:=hideP (fun (W:World) (h:Ints W W.heap.size a l)=>Bi.get_impl l bits x2 a cap W h (by have:=HN.o;omega) (by omega));obtain⟨xl,xa,xc,hx⟩:∃ x y z,getR l bits x2=(x,y,z):=⟨_,_,_,rfl⟩;have HX:=hideP hx;rw[hx,<-HN.o]at HGI;clear hx
 go_wp2_with fail
 refine(HGI.o w2 HL.o).mono ?_;rintro e w3 ⟨v,rfl,ho,hb3⟩;clear cx0 cx1 cx2 cx3;have HL_:=hideP (ints_keep HL.o hb3);have BW_:=hideP (low_keep BW.o hb3);have HG_:=hideP (glob_keep HG.o hb3);have X_:=hideP (blk_keep X.o hb3);clear HL BW HG X;have HL:=HL_;clear HL_;have BW:=BW_;clear BW_;have HG:=HG_;clear HG_;have X:=X_;clear X_;clear hb3;obtain⟨ay,cy,hv,hi⟩:=In.OwnIn.ints ho;obtain⟨ny,hny⟩:∃ x,x=xl.length:=⟨_,rfl⟩;rw[<-hny]at hv;subst hv;have NY:=hideP hny;have IY:=hideP hi;clear hny hi ho HGI
 have ey:ny<=400:=by
  have:=Bi.getR_length l bits x2
  rw[HX.o]at this;rw[NY.o];exact this
 have HEND:Hid (∀ (r:ByteArray) (v:Value),(∀ s b,Good s b->getR (up (lenS b)) (openR (bitsS b) (8*((bitsS b).size:Int))) ((symS b).length:Int)=(xl,xa,xc)->x1=((bwtA b:Nat):Int)->r=b/\v=.nilIface)->∀ s b,Good s b->l=up (lenS b)->x1=((bwtA b:Nat):Int)->x2=((symS b).length:Int)->p=bitsS b->r=b/\v=.nilIface):=fun r v h s b hg h1 h2 h3 h5=>by
  refine h s b hg ?_ h2;rw[<-HX.o,HBT.o,h1,h3,h5]
 by_cases hc:xc=0
 ·subst hc
  go_wp2_with fail
  have hb4:Below w3.heap.size w3 (w3.alloc (.cells #[.slice ay ny cy,.int .i64 xa,.int .i64 0] 231)):=(Below.refl _ _).alloc nl _;generalize hww:w3.alloc (.cells #[.slice ay ny cy,.int .i64 xa,.int .i64 0] 231)=w4 at hb4 ⊢;clear hww;have HL_:=hideP (ints_keep HL.o hb4);have BW_:=hideP (low_keep BW.o hb4);have HG_:=hideP (glob_keep HG.o hb4);have X_:=hideP (blk_keep X.o hb4);have IY_:=hideP (ints_keep IY.o hb4);clear HL BW HG X IY;have HL:=HL_;clear HL_;have BW:=BW_;clear BW_;have HG:=HG_;clear HG_;have X:=X_;clear X_;have IY:=IY_;clear IY_;clear hb4;have HZI:=hideP (fun (W:World) (h:Ints W W.heap.size ay xl)=>zerosBack_impl xl ay cy W.heap.size W h nl (by have:=NY.o;omega));rw[<-NY.o]at HZI;refine(HZI.o w4 IY.o).mono ?_;rintro e w5 ⟨v5,rfl,ho5,hb5⟩;have HL_:=hideP (ints_keep HL.o hb5);have BW_:=hideP (low_keep BW.o hb5);have HG_:=hideP (glob_keep HG.o hb5);have X_:=hideP (blk_keep X.o hb5);have IY_:=hideP (ints_keep IY.o hb5);clear HL BW HG X IY;have HL:=HL_;clear HL_;have BW:=BW_;clear BW_;have HG:=HG_;clear HG_;have X:=X_;clear X_;have IY:=IY_;clear IY_;clear hb5;obtain⟨az,cz,hv,_,hi⟩:=ho5.ints;obtain⟨nz,hnz⟩:∃ x,x=(backR xl).length:=⟨_,rfl⟩;rw[<-hnz]at hv;subst hv;have NZ:=hideP hnz;have IZ:=hideP hi;clear hnz hi ho5
  have ez:nz<=400:=by rw[NZ.o];exact backR_len _
  have HFI:=hideP (fun (W:World) (h:Ints W W.heap.size az (backR xl))=>frontBack_impl (backR xl) az cz W.heap.size W h nl (by have:=NZ.o;omega));rw[<-NZ.o]at HFI
  go_wp2_with fail
  refine(HFI.o w5 IZ.o).mono ?_;rintro e w6 ⟨rfl,hb6⟩;have HL_:=hideP (ints_keep HL.o hb6);have BW_:=hideP (low_keep BW.o hb6);have HG_:=hideP (glob_keep HG.o hb6);have X_:=hideP (blk_keep X.o hb6);have IY_:=hideP (ints_keep IY.o hb6);clear HL BW HG X IY;have HL:=HL_;clear HL_;have BW:=BW_;clear BW_;have HG:=HG_;clear HG_;have X:=X_;clear X_;have IY:=IY_;clear IY_;clear hb6;have hfs:(fbackR (backR xl)).length<=400:=fback_len _;obtain⟨tx,htx⟩:∃ x:ByteArray,x=⟨(fbackR (backR xl)).toArray⟩:=⟨_,rfl⟩
  have hts:tx.size<=400:=by rw[htx,size_list];exact hfs
  rw[<-htx];have HTX:=hideP htx;clear htx hfs;obtain⟨cx0,cx1,cx2,cx3⟩:=four X.o
  go_wp2_with fail
  refine(unbwt_impl tx x1 w6 (by omega)).mono ?_;rintro e w7 ⟨rfl,hb7⟩;clear cx0 cx1 cx2 cx3;have HL_:=hideP (ints_keep HL.o hb7);have BW_:=hideP (low_keep BW.o hb7);have HG_:=hideP (glob_keep HG.o hb7);have X_:=hideP (blk_keep X.o hb7);have IY_:=hideP (ints_keep IY.o hb7);clear HL BW HG X IY;have HL:=HL_;clear HL_;have BW:=BW_;clear BW_;have HG:=HG_;clear HG_;have X:=X_;clear X_;have IY:=IY_;clear IY_;clear hb7;obtain⟨yb,yc,hy⟩:=unR_case tx x1;have HY:=hideP hy;have HYS:Hid (yb.size<=400):=unR_size (by omega) hy;rw[hy];clear hy
  have HTT:Hid (∀ s b,Good s b->getR (up (lenS b)) (openR (bitsS b) (8*((bitsS b).size:Int))) ((symS b).length:Int)=(xl,xa,0)->x1=((bwtA b:Nat):Int)->yb=b/\yc=0):=fun s b hg h1 h2=>by
   rw[bits_back hg]at h1;have e1:symS b=xl:=congrArg Prod.fst h1;have h3:=block_back hg.1;rw[e1,<-HTX.o,<-h2,HY.o]at h3;unfold tOut at h3;simp at h3;exact h3
  by_cases hyc:yc=0
  ·subst hyc
   go_wp2_with fail
   go_ret2;refine⟨⟨yb,.nilIface,rfl,.inl rfl,by have:=HYS.o;omega,HEND.o _ _ fun s b h1 h2 h3=>⟨(HTT.o s b h1 h2 h3).1,rfl⟩⟩,?_⟩;exact low_keep BW.o ((Below.refl _ _).alloc nl _)
  ·have hyc':(yc != 0)=true:=by simp;exact hyc
   have gcell:=fun o=>glob_alloc (w:=w7) (o:=o) HG.o
   go_wp2_with fail
   go_quiet (fail)
   go_wp2_with fail
   go_ret2;refine⟨⟨⟨#[]⟩,ev,rfl,.inr rfl,by decide,HEND.o _ _ fun s b h1 h2 h3=>absurd (HTT.o s b h1 h2 h3).2 hyc⟩,?_⟩;exact below_drewN (low_keep BW.o ((Below.refl _ _).alloc nl _)) _
 ·have hc':(xc != 0)=true:=by simp;exact hc
  have gcell:=fun o=>glob_alloc (w:=w3) (o:=o) HG.o
  go_wp2_with fail
  go_quiet (fail)
  go_wp2_with fail
  go_ret2;refine⟨⟨⟨#[]⟩,ev,rfl,.inr rfl,by decide,HEND.o _ _ fun s b h1 h2 _=>?_⟩,?_⟩
  ·rw[bits_back h1]at h2
   exact absurd (congrArg (fun q=>q.2.2) h2).symm hc
  ·exact below_drewN (low_keep BW.o ((Below.refl _ _).alloc nl _)) _
end Up
namespace Pk
open St (Strs IsS)
open In (Ints IsI OwnI)
open Hf (up up_length)
open Bi (above putR packR)
open Go.Proofs.YtbdcffjcogglbaaGreatDoor.So (bwtT bwtA bwtC sOut bwt_impl)
open Fr (frontR frontOf_impl frontR_len)
open Ze (zerosR zerosOf_impl)
open Se (sealV seal_impl)
theorem ints_keep {w w':World} {a:Option Addr} {l:List Int} (h:Ints w w.heap.size a l) (hb:Below w.heap.size w w'):Ints w' w'.heap.size a l:=(h.below hb).mono hb.size
theorem lt_blk {w:World} {g:Nat} {x:Obj} (h:w.heap[g]? = some x):g<w.heap.size:=(Array.getElem?_eq_some_iff.1 h).1
theorem blk_keep {w w':World} {g:Nat} {x:Obj} (h:w.heap[g]? = some x) (hb:Below w.heap.size w w'):w'.heap[g]? = some x:=(hb.block g (lt_blk h)).trans h
theorem low_keep {w0 w w':World} (h:Below w0.heap.size w0 w) (hb:Below w.heap.size w w'):Below w0.heap.size w0 w':=h.trans (hb.mono h.size)
theorem ints_four {W:World} {g:Nat} {a b c d:Int} {t:TypeId} (h:W.heap[g]? = some (.cells #[.int .i64 a,.int .i64 b,.int .i64 c,.int .i64 d] t (0,0))):Ints W W.heap.size (some ⟨g,0,none⟩) [a,b,c,d] :=
 .inr ⟨g,0,rfl,lt_blk h,fun j hj=>by
  rw[Nat.zero_add,cell_of_row W g j _ _ _ h]
  match j,hj with
  |0,_=>rfl
  |1,_=>rfl
  |2,_=>rfl
  |3,_=>rfl⟩
theorem strs_four {W:World} {g:Nat} {a b c d:ByteArray} {t:TypeId} (h:W.heap[g]? = some (.cells #[.string a,.string b,.string c,.string d] t (0,0))):Strs W W.heap.size (some ⟨g,0,none⟩) [a,b,c,d] :=
 .inr ⟨g,0,rfl,lt_blk h,fun j hj=>by
  rw[Nat.zero_add,cell_of_row W g j _ _ _ h]
  match j,hj with
  |0,_=>rfl
  |1,_=>rfl
  |2,_=>rfl
  |3,_=>rfl⟩
theorem strs_two {W:World} {g:Nat} {a b:ByteArray} {t:TypeId} (h:W.heap[g]? = some (.cells #[.string a,.string b] t (0,0))):Strs W W.heap.size (some ⟨g,0,none⟩) [a,b] :=
 .inr ⟨g,0,rfl,lt_blk h,fun j hj=>by
  rw[Nat.zero_add,cell_of_row W g j _ _ _ h]
  match j,hj with
  |0,_=>rfl
  |1,_=>rfl⟩
theorem cat_two (b:ByteArray):cat [⟨#[0]⟩,b]=0 :: b.data.toList:=by
 unfold cat;simp
theorem cat_short (b:ByteArray):cat [⟨#[1]⟩,⟨(numsL (headS b)).toArray⟩,⟨(numsL (rowT (lenS b) 257)).toArray⟩,bitsS b]=shortL b:=by
 unfold cat shortL;simp
theorem packR_size (t:ByteArray) (h:t.size<=4800):(packR t).size<=4800:=by
 unfold packR
 split
 ·decide
 ·unfold Bi.packV
  rw[Sh.strF_size];omega
theorem bitsS_size (b:ByteArray):(bitsS b).size<=4800:=packR_size _ (bits_size b)
theorem bwtA_le (b:ByteArray) (h:b.size<=48):bwtA b<=48:=by
 unfold bwtA;rw[if_pos h];exact Nat.le_trans (So.atK_le _ _) h
theorem headS_mem (b:ByteArray) (h:b.size<=48):∀ x∈headS b,-9223372036854775808<=x/\x<=9223372036854775807:=by
 have h1:=bwtA_le b h;have h2:=symS_len b;have h3:=Bi.above_le (up (lenS b));rw[up_length,(lenS_facts b).1]at h3;intro x hx;unfold headS at hx;simp only[List.mem_cons,List.not_mem_nil,or_false]at hx;omega
theorem shortL_le (b:ByteArray):(shortL b).length<=20000:=by
 have h1:=numsL_le (headS b);have h2:=numsL_le (rowT (lenS b) 257);have h3:=rowT_length (lenS b) 257;have h4:=bitsS_size b
 have h5:(bitsS b).data.toList.length=(bitsS b).size:=by simp
 have h6:(headS b).length=4:=rfl;unfold shortL;rw[List.length_append,List.length_append,List.length_append];simp only[List.length_cons,List.length_nil];omega
theorem short_impl (b:ByteArray) (w:World) (hb:b.size<=48) :
  Calls prog 67 #[.string b] w fun e w'=>e=.returned (.string (shortV b))/\Below w.heap.size w w':=by
 obtain⟨hf1,hf2,_,_⟩:=lenS_facts b;have HSM:=hideP (symS_mem b);have hsl:=symS_len b;have C1:Hid (∀ W,Calls prog 86 #[.string b] W fun e w'=>e=.returned (.agg #[.string (bwtT b),.int .i64 (bwtA b:Nat),.int .i64 (bwtC b:Nat)])/\Below W.heap.size W w'):=fun W=>bwt_impl b W (by omega)
 have C2:Hid (∀ W,Calls prog 88 #[.string (bwtT b)] W fun e w'=>∃ v,e=.returned v/\OwnI w' W.heap.size v (frontR (bwtT b).data.toList)/\Below W.heap.size W w'):=fun W=>frontOf_impl (bwtT b) W (by
  have:(bwtT b).size<=48:=by
   by_cases h:b.size<=48
   ·unfold bwtT
    rw[if_pos h,Sh.strF_size];exact h
   ·omega
  omega)
 have C3:Hid (∀ W base v,OwnI W base v (frontR (bwtT b).data.toList)->Calls prog 87 #[v] W fun e w'=>∃ v,e=.returned v/\OwnI w' W.heap.size v (symS b)/\Below W.heap.size W w'):=fun W base v h=>by
  obtain⟨x,c,rfl,_,hi⟩:=h.ints;exact zerosOf_impl _ x c W.heap.size W hi nl (by have:=frontR_len (bwtT b).data.toList;omega)
 obtain⟨n,hn⟩:∃ n,n=(symS b).length:=⟨_,rfl⟩;have HN:=hideP hn
 have C4:Hid (∀ W x c,Ints W W.heap.size x (symS b)->Calls prog 90 #[.slice x n c] W fun e w'=>e=.returned (.slice (some ⟨W.heap.size,0,none⟩) 257 257)/\Ints w' w'.heap.size (some ⟨W.heap.size,0,none⟩) (up (countsN (symS b)))/\Below W.heap.size W w'):=fun W x c h=>by
  refine(counts_impl (symS b) x c n W h hn.symm (by omega) HSM.o).mono ?_;rintro e w' ⟨rfl,hi,hb⟩;exact⟨rfl,hi.ints hi.lt,hb⟩
 have C5:Hid (∀ W x c,Ints W W.heap.size x (up (countsN (symS b)))->Calls prog 89 #[.slice x 257 c] W fun e w'=>∃ a c',e=.returned (.slice a 257 c')/\Ints w' w'.heap.size a (up (lenS b))/\Below W.heap.size W w'):=fun W x c h=>by
  have:=Hf.lengths_impl x c (up (countsN (symS b))) W h (by rw[up_length,countsN_length];decide)
  rw[up_length,countsN_length,lens_counts]at this;refine this.mono ?_;rintro e w' ⟨v,rfl,ho,hb⟩;obtain⟨a,c',rfl,_,hi⟩:=ho.ints;rw[up_length,hf1];exact⟨a,c',rfl,hi,hb⟩
 have C6:Hid (∀ W x c,Ints W W.heap.size x (up (lenS b))->Calls prog 91 #[.slice x 257 c] W fun e w'=>e=.returned (.int .i64 (above (up (lenS b)):Nat))/\w'=W):=fun W x c h=>by
  have:=Bi.count_impl (up (lenS b)) x c W.heap.size W h (by rw[up_length,hf1];decide)
  rw[up_length,hf1]at this;exact this
 have C7:Hid (∀ W x c y d,Ints W W.heap.size x (up (lenS b))->Ints W W.heap.size y (symS b)->Calls prog 93 #[.slice x 257 c,.slice y n d] W fun e w'=>e=.returned (.string (putR (up (lenS b)) (symS b)))/\Below W.heap.size W w'):=fun W x c y d h1 h2=>by
  have:=Bi.put_impl (up (lenS b)) (symS b) x y c d W h1 h2 (by rw[up_length,hf1];decide) (by omega)
  rw[up_length,hf1,<-hn]at this;exact this
 have C8:Hid (∀ W,Calls prog 92 #[.string (putR (up (lenS b)) (symS b))] W fun e w'=>e=.returned (.string (bitsS b))/\Below W.heap.size W w'):=fun W=>Bi.pack_impl _ W (by have:=bits_size b;omega)
 have C9:Hid (∀ W g t,W.heap[g]? = some (.cells #[.int .i64 (b.size:Nat),.int .i64 (bwtA b:Nat),.int .i64 n,.int .i64 (above (up (lenS b)):Nat)] t (0,0))->Calls prog 94 #[.slice (some ⟨g,0,none⟩) 4 4] W fun e w'=>e=.returned (.string ⟨(numsL (headS b)).toArray⟩)/\Below W.heap.size W w'):=fun W g t h=>by
  have h':=ints_four h;rw[hn]at h';exact nums_any (headS b) (some ⟨g,0,none⟩) 4 4 W h' rfl (by decide) (headS_mem b hb)
 have C10:Hid (∀ W x c,Ints W W.heap.size x (up (lenS b))->Calls prog 95 #[.slice x 257 c] W fun e w'=>e=.returned (.string ⟨(numsL (rowT (lenS b) 257)).toArray⟩)/\Below W.heap.size W w'):=fun W x c h=>table_impl (lenS b) x c 257 W h hf1 (by decide) hf2
 have C11:Hid (∀ W g t,W.heap[g]? = some (.cells #[.string ⟨#[1]⟩,.string ⟨(numsL (headS b)).toArray⟩,.string ⟨(numsL (rowT (lenS b) 257)).toArray⟩,.string (bitsS b)] t (0,0))->Calls prog 28 #[.slice (some ⟨g,0,none⟩) 4 4] W fun e w'=>e=.returned (.string (shortV b))/\Below W.heap.size W w'):=fun W g t h=>by
  have:=join_any _ (some ⟨g,0,none⟩) 4 4 W (strs_four h) rfl (by decide) (by rw[cat_short];have:=shortL_le b;omega)
  rw[cat_short]at this;exact this
 rw[<-hn]at hsl;have hn':=hn;clear hn hn' hf1 hf2 HSM;generalize bwtC b=kC at C1;generalize shortV b=R at C11 ⊢;generalize (⟨(numsL (headS b)).toArray⟩:ByteArray)=T1 at C9 C11;generalize (⟨(numsL (rowT (lenS b) 257)).toArray⟩:ByteArray)=T2 at C10 C11;generalize bitsS b=T3 at C8 C11;generalize putR (up (lenS b)) (symS b)=T0 at C7 C8;generalize above (up (lenS b))=kV at C6 C9;generalize bwtA b=kA at C1 C9;generalize bwtT b=kT at C1 C2 C3;go_enter func67,ntmps67
 go_wp2_with fail
 refine(C1.o _).mono ?_;rintro e w1 ⟨rfl,hb1⟩;have B1:=hideP hb1;clear hb1
 go_wp2_with fail
 have X2:Hid ((w1.alloc (.cells #[.string kT,.int .i64 (kA:Nat),.int .i64 (kC:Nat)] 108)).heap[w1.heap.size]? = some (.cells #[.string kT,.int .i64 (kA:Nat),.int .i64 (kC:Nat)] 108 (0,0))):=heap_alloc_new w1 _;have B2:=hideP (B1.o.alloc B1.o.size (.cells #[.string kT,.int .i64 (kA:Nat),.int .i64 (kC:Nat)] 108));generalize w1.alloc (.cells #[.string kT,.int .i64 (kA:Nat),.int .i64 (kC:Nat)] 108)=w2 at X2 B2 ⊢;generalize w1.heap.size=gx at X2 ⊢;clear B1;refine(C2.o _).mono ?_;rintro e w3 ⟨v3,rfl,ho3,hb3⟩;have X3:=hideP (blk_keep X2.o hb3);have B3:=hideP (low_keep B2.o hb3);have O3:=hideP ho3;clear ho3 hb3 X2 B2
 go_wp2_with fail
 refine(C3.o _ _ _ O3.o).mono ?_;rintro e w4 ⟨v4,rfl,ho4,hb4⟩;have X4:=hideP (blk_keep X3.o hb4);have B4:=hideP (low_keep B3.o hb4);obtain⟨ay,cy,hv4,_,hi4⟩:=ho4.ints;rw[<-HN.o]at hv4;subst hv4;have Y4:=hideP hi4;clear ho4 hb4 X3 B3 O3 hi4
 go_wp2_with fail
 refine(C4.o _ _ _ Y4.o).mono ?_;rintro e w5 ⟨rfl,hi5,hb5⟩;have X5:=hideP (blk_keep X4.o hb5);have B5:=hideP (low_keep B4.o hb5);have Y5:=hideP (ints_keep Y4.o hb5);have Z5:=hideP hi5;clear hi5 hb5 X4 B4 Y4
 go_wp2_with fail
 refine(C5.o _ _ _ Z5.o).mono ?_;rintro e w6 ⟨az,cz,rfl,hi6,hb6⟩;have X6:=hideP (blk_keep X5.o hb6);have B6:=hideP (low_keep B5.o hb6);have Y6:=hideP (ints_keep Y5.o hb6);have Z6:=hideP hi6;clear hi6 hb6 X5 B5 Y5 Z5;have K0:Hid (Below w6.heap.size w6 w6.drew):=(Below.refl _ _).drew;have CX:Hid (∀ W,Below w6.heap.size w6 W->W.cell? ⟨gx,1,none⟩=some (.int .i64 (kA:Nat))):=fun W h=>cell_of_row W gx 1 _ _ _ (blk_keep X6.o h)
 go_upto_region 4 with fail
 go_cut [6] from 17 to 25 (fun s6 wx=>∃ g:Nat,s6=.pointer (some ⟨g,0,none⟩)/\wx.heap[g]? = some (.cells #[.int .i64 (b.size:Nat),.int .i64 (kA:Nat),.int .i64 n,.int .i64 (kV:Nat)] 113 (0,0))/\Below w6.heap.size w6 wx)
 case first =>
  have hS0:=CX.o _ K0.o;have KA:Hid (∀ o,Below w6.heap.size w6 (w6.drew.alloc o)):=fun o=>(Below.refl _ _).drew.alloc nl o;have KB:Hid (∀ o,Below w6.heap.size w6 (w6.alloc o).drew):=fun o=>((Below.refl _ _).alloc nl o).drew
  go_region_held3 (fun W=>W.cell? ⟨gx,1,none⟩=some (.int .i64 (kA:Nat))) (first|assumption|exact CX.o _ (KB.o _)|exact CX.o _ (KA.o _)) (first|(go_at_call 91;(with_reducible refine(C6.o _ _ _ ?_).mono ?_);(· first|exact ints_keep Z6.o K0.o|exact ints_keep Z6.o (KB.o _)|exact ints_keep Z6.o (KA.o _));rintro e w7 ⟨rfl,hw7⟩;subst w7))
  all_goals (try go_wp2_with fail)
  all_goals (go_meet;exact⟨w6.heap.size,rfl,heap_alloc_new w6 _,KB.o _⟩)
 case rest =>
  obtain⟨g,rfl,hr,hbc⟩:=hcut;have G0:=hideP hr;have Y0:=hideP (ints_keep Y6.o hbc);have Z0:=hideP (ints_keep Z6.o hbc);have B0:=hideP (low_keep B6.o hbc);clear hr hbc CX X6 Y6 Z6 B6 K0
  go_wp2_with fail
  refine(C7.o _ _ _ _ _ Z0.o Y0.o).mono ?_;rintro e w8 ⟨rfl,hb8⟩;have G8:=hideP (blk_keep G0.o hb8);have Z8:=hideP (ints_keep Z0.o hb8);have B8:=hideP (low_keep B0.o hb8);clear hb8 G0 Y0 Z0 B0
  go_wp2_with fail
  refine(C8.o _).mono ?_;rintro e w9 ⟨rfl,hb9⟩;have G9:=hideP (blk_keep G8.o hb9);have Z9:=hideP (ints_keep Z8.o hb9);have B9:=hideP (low_keep B8.o hb9);clear hb9 G8 Z8 B8
  go_wp2_with fail
  refine(C9.o _ _ _ G9.o).mono ?_;rintro e w10 ⟨rfl,hb10⟩;have Z10:=hideP (ints_keep Z9.o hb10);have B10:=hideP (low_keep B9.o hb10);clear hb10 G9 Z9 B9
  go_wp2_with fail
  refine(C10.o _ _ _ Z10.o).mono ?_;rintro e w11 ⟨rfl,hb11⟩;have B11:=hideP (low_keep B10.o hb11);clear hb11 Z10 B10
  go_wp2_with fail
  have H12:Hid ((w11.alloc (.cells #[.string ⟨#[1]⟩,.string T1,.string T2,.string T3] 9)).heap[w11.heap.size]? = some (.cells #[.string ⟨#[1]⟩,.string T1,.string T2,.string T3] 9 (0,0))):=heap_alloc_new w11 _;have B12:=hideP (B11.o.alloc B11.o.size (.cells #[.string ⟨#[1]⟩,.string T1,.string T2,.string T3] 9));refine(C11.o _ _ _ H12.o).mono ?_;rintro e w13 ⟨rfl,hb13⟩;have B13:=hideP (low_keep B12.o hb13);clear hb13
  go_wp2_with fail
  go_ret;exact⟨rfl,B13.o⟩
theorem pack_impl (b:ByteArray) (w:World) (hb:b.size<=1048576) :
  Calls prog 40 #[.string b] w fun e w'=>e=.returned (.string (packB b))/\Below w.heap.size w w':=by
 by_cases h48:48<b.size
 ·have HR:Hid (packB b=⟨#[]⟩):=if_pos h48
  have h48':(48:Int)<(b.size:Int):=by omega
  rw[HR.o];go_enter func40,ntmps40
  go_wp2_with fail
  go_ret;exact⟨rfl,Below.refl _ _⟩
 ·have HR:Hid (packB b=sealV (innerV b)):=if_neg h48
  have h48':decide ((48:Int)<(b.size:Int))=false:=by simp;omega
  have HS:=hideP (fun W=>short_impl b W (by omega))
  have HP:Hid (∀ W g t,W.heap[g]? = some (.cells #[.string ⟨#[0]⟩,.string b] t (0,0))->Calls prog 28 #[.slice (some ⟨g,0,none⟩) 2 2] W fun e w'=>e=.returned (.string (plainV b))/\Below W.heap.size W w'):=fun W g t h=>by
   have:=join_any _ (some ⟨g,0,none⟩) 2 2 W (strs_two h) rfl (by decide) (by rw[cat_two];simp;omega)
   rw[cat_two]at this;exact this
  have hps:=plainV_size b
  have hss:(shortV b).size<=20000:=by
   have:=shortL_le b
   show (shortL b).toArray.size<=20000
   rw[List.size_toArray];exact this
  have HSE:=hideP (fun (t:ByteArray) (W:World) (h:t.size<=20000)=>seal_impl t W (by unfold maxLen;omega))
  have HIN:Hid (innerV b=if (shortV b).size<(plainV b).size then shortV b else plainV b):=by
   unfold Hid innerV;rw[hps]
  rw[HR.o,HIN.o];clear HR HIN;generalize shortV b=S at HS hss ⊢;generalize plainV b=P at HP hps ⊢
  have hpz:P.size<=49:=by omega
  clear hps;by_cases hlt:S.size<P.size
  ·have hlt':(S.size:Int)<(P.size:Int):=by omega
   rw[if_pos hlt];have HSE1:=hideP (fun W=>HSE.o S W hss);generalize sealV S=R at HSE1 ⊢;go_enter func40,ntmps40
   go_wp2_with fail
   have H1:Hid ((w.alloc (.cells #[.string ⟨#[0]⟩,.string b] 9)).heap[w.heap.size]? = some (.cells #[.string ⟨#[0]⟩,.string b] 9 (0,0))):=heap_alloc_new w _;have B1:=hideP ((Below.refl w.heap.size w).alloc nl (.cells #[.string ⟨#[0]⟩,.string b] 9));refine(HP.o _ _ _ H1.o).mono ?_;rintro e w2 ⟨rfl,hb2⟩;have B2:=hideP (low_keep B1.o hb2);clear hb2 H1 B1
   go_wp2_with fail
   refine(HS.o _).mono ?_;rintro e w3 ⟨rfl,hb3⟩;have B3:=hideP (low_keep B2.o hb3);clear hb3 B2
   go_wp2_with fail
   refine(HSE1.o _).mono ?_;rintro e w4 ⟨rfl,hb4⟩;have B4:=hideP (low_keep B3.o hb4);clear hb4
   go_wp2_with fail
   go_ret;exact⟨rfl,B4.o⟩
  ·have hlt':decide ((S.size:Int)<(P.size:Int))=false:=by simp;omega
   rw[if_neg hlt];have HSE1:=hideP (fun W=>HSE.o P W (by omega));generalize sealV P=R at HSE1 ⊢;go_enter func40,ntmps40
   go_wp2_with fail
   have H1:Hid ((w.alloc (.cells #[.string ⟨#[0]⟩,.string b] 9)).heap[w.heap.size]? = some (.cells #[.string ⟨#[0]⟩,.string b] 9 (0,0))):=heap_alloc_new w _;have B1:=hideP ((Below.refl w.heap.size w).alloc nl (.cells #[.string ⟨#[0]⟩,.string b] 9));refine(HP.o _ _ _ H1.o).mono ?_;rintro e w2 ⟨rfl,hb2⟩;have B2:=hideP (low_keep B1.o hb2);clear hb2 H1 B1
   go_wp2_with fail
   refine(HS.o _).mono ?_;rintro e w3 ⟨rfl,hb3⟩;have B3:=hideP (low_keep B2.o hb3);clear hb3 B2
   go_wp2_with fail
   refine(HSE1.o _).mono ?_;rintro e w4 ⟨rfl,hb4⟩;have B4:=hideP (low_keep B3.o hb4);clear hb4
   go_wp2_with fail
   go_ret;exact⟨rfl,B4.o⟩
end Pk
namespace Se
def sealL (l:List UInt8):List UInt8:=l++fourL (Cr.fin (Cr.crcL (Cr.fin 0) l))
theorem unseal_back (t:ByteArray) (ht:t.size<=7996):unsealV (sealV t)=outV t 0 0:=by
 have hs:sealV t=t++fourS (crcOf t):=by unfold sealV;rw[if_pos ht]
 have hz:(sealV t).size=t.size+4:=by rw[hs];simp[ByteArray.size_append,fourS_size]
 have hx:(sealV t).extract 0 ((sealV t).size-4)=t:=by
  rw[hz,hs,Nat.add_sub_cancel];exact ByteArray.extract_append_eq_left rfl
 unfold unsealV;rw[if_neg (by omega),if_neg (by omega),hx,if_pos rfl]
end Se
namespace Up
open Pk
open Se (sealV unsealV outV unseal_back unsealV_yes unsealV_no)
open Sh (bt)
theorem unseal_case (s:ByteArray):(∃ t,unsealV s=outV t 0 0/\sealV t=s/\t.size<=7996/\4<=s.size)∨∃ c:Int,¬c=0/\unsealV s=outV ⟨#[]⟩ 0 c:=by
 by_cases h1:8000<s.size
 ·refine .inr ⟨2,by decide,?_⟩
  unfold unsealV;rw[if_pos h1]
 ·by_cases h2:s.size<4
  ·refine .inr ⟨4,by decide,?_⟩
   unfold unsealV;rw[if_neg h1,if_pos h2]
  ·by_cases h:sealV (s.extract 0 (s.size-4))=s
   ·refine .inl ⟨_,unsealV_yes s _ h1 h2 rfl h,h,?_,by omega⟩
    rw[ByteArray.size_extract];omega
   ·exact .inr ⟨5,by decide,unsealV_no s _ h1 h2 rfl h⟩
noncomputable def ansT (t:ByteArray):Value:=open Classical in if h:∃ b:ByteArray,b.size<=48/\innerV b=t then outV (Classical.choose h) 0 0 else outV ⟨#[]⟩ 0 3
noncomputable def ansU (s:ByteArray):Value:=open Classical in if h:∃ t,unsealV s=outV t 0 0 then ansT (Classical.choose h) else unsealV s
theorem ansU_yes {s t:ByteArray} (h:unsealV s=outV t 0 0):ansU s=ansT t:=by
 have hx:∃ t,unsealV s=outV t 0 0:=⟨t,h⟩;unfold ansU;rw[dif_pos hx];have e:=h.symm.trans (Classical.choose_spec hx);generalize Classical.choose hx=c at e ⊢;unfold outV at e;simp at e;rw[e]
theorem ansU_no {s:ByteArray} {c:Int} (h0:¬c=0) (h:unsealV s=outV ⟨#[]⟩ 0 c):ansU s=outV ⟨#[]⟩ 0 c:=by
 have hx:¬∃ t,unsealV s=outV t 0 0:=by
  rintro⟨t,ht⟩;rw[h]at ht;unfold outV at ht;simp at ht;exact h0 ht.2
 unfold ansU;rw[dif_neg hx,h]
theorem inner_size {b:ByteArray} (h:b.size<=48):(innerV b).size<=49:=by
 unfold innerV
 split
 ·omega
 ·rw[plainV_size];omega
theorem pack_inner {s t b:ByteArray} (h:sealV t=s) (ht:t.size<=7996) (h4:4<=s.size):packB b=s↔b.size<=48/\innerV b=t:=by
 unfold packB;by_cases hb:48<b.size
 ·rw[if_pos hb]
  constructor
  ·intro e
   rw[<-e]at h4;exact absurd h4 (by decide)
  ·intro e
   omega
 ·rw[if_neg hb]
  have hi:=inner_size (b:=b) (by omega)
  constructor
  ·intro e
   refine⟨by omega,?_⟩;have h1:=unseal_back (innerV b) (by omega);have h2:=unseal_back t ht;rw[e,<-h]at h1;rw[h1]at h2;unfold outV at h2;simp at h2;exact h2
  ·intro e
   rw[e.2,h]
theorem ansT_read {s t r:ByteArray} (h:sealV t=s) (ht:t.size<=7996) (h4:4<=s.size) (hr:∀ b:ByteArray,b.size<=48->innerV b=t->r=b):(packB r=s->ansT t=outV r 0 0)/\(¬packB r=s->ansT t=outV ⟨#[]⟩ 0 3):=by
 refine⟨fun e=>?_,fun e=>?_⟩
 ·have hx:∃ b:ByteArray,b.size<=48/\innerV b=t:=⟨r,(pack_inner h ht h4).1 e⟩
  unfold ansT;rw[dif_pos hx]
  have:=Classical.choose_spec hx
  rw[<-hr _ this.1 this.2]
 ·unfold ansT
  rw[dif_neg];rintro⟨b,h1,h2⟩;refine e ?_;rw[hr b h1 h2];exact(pack_inner h ht h4).2 ⟨h1,h2⟩
theorem ansT_none {t:ByteArray} (hr:∀ b:ByteArray,b.size<=48->¬innerV b=t):ansT t=outV ⟨#[]⟩ 0 3:=by
 unfold ansT;rw[dif_neg];rintro⟨b,h1,h2⟩;exact hr b h1 h2
theorem inner_case {t b:ByteArray} (h:b.size<=48) (ht:innerV b=t):(Good t b/\0<t.size/\bt t 0=1)∨(t=plainV b/\0<t.size/\bt t 0=0/\t.extract 1 t.size=b):=by
 unfold innerV at ht
 split at ht
 ·rename_i hc
  refine .inl ⟨⟨h,ht.symm,hc⟩,?_,?_⟩
  ·rw[<-ht]
   show 0<(shortL b).toArray.size
   rw[List.size_toArray];unfold shortL;simp
  ·rw[<-ht]
   rfl
 ·refine .inr ⟨ht.symm,?_,?_,?_⟩
  ·rw[<-ht,plainV_size];omega
  ·rw[<-ht]
   rfl
  ·rw[<-ht]
   refine Bi.ext_list ?_;rw[ByteArray.data_extract,Array.toList_extract,List.extract_eq_take_drop,plainV_size]
   show (List.drop 1 (0 :: b.data.toList)).take _=_
   rw[List.drop_one,List.tail_cons,List.take_of_length_le];rw[Array.length_toList]
   show b.size<=_
   omega
end Up
namespace Ls
open Up (ansU ansT ansU_yes ansU_no unseal_case)
open Se (outV)
open Pk (cat)
noncomputable def blkT (s:ByteArray):Option ByteArray:=open Classical in if h:∃ t,ansU s=outV t 0 0 then some (Classical.choose h) else none
theorem outV_same {t u:ByteArray} {c d:Int} (h:outV t 0 c=outV u 0 d):t=u/\c=d:=by
 unfold outV at h;simp at h;exact h
theorem ansU_out (s:ByteArray):∃ t c,ansU s=outV t 0 c:=by
 rcases unseal_case s with⟨t,h,_⟩|⟨c,h0,h⟩
 ·rw[ansU_yes h]
  unfold ansT
  split<;>exact⟨_,_,rfl⟩
 ·rw[ansU_no h0 h]
  exact⟨_,_,rfl⟩
theorem blkT_yes {s t:ByteArray} (h:ansU s=outV t 0 0):blkT s=some t:=by
 have hx:∃ t,ansU s=outV t 0 0:=⟨t,h⟩;unfold blkT;rw[dif_pos hx]
 have:=h.symm.trans (Classical.choose_spec hx)
 rw[<-(outV_same this).1]
theorem blkT_no {s t:ByteArray} {c:Int} (h:ansU s=outV t 0 c) (hc:¬c=0):blkT s=none:=by
 unfold blkT;rw[dif_neg];rintro⟨u,hu⟩;rw[h]at hu;exact hc (outV_same hu).2
def mustN (z b:Int) (i:Nat):Int:=min b (z-i*b)
noncomputable def fileL (z b:Int):Nat->List ByteArray->List ByteArray
 |_,[]=>[]
 |i,p :: ps=>match blkT p with
  |none=>[]
  |some t=>if (t.size:Int)=mustN z b i then t :: fileL z b (i+1) ps else []
theorem fileL_next {z b:Int} {i:Nat} {p t:ByteArray} {ps:List ByteArray} (h:blkT p=some t) (hz:(t.size:Int)=mustN z b i):fileL z b i (p :: ps)=t :: fileL z b (i+1) ps:=by
 rw[fileL,h];exact if_pos hz
theorem fileL_none {z b:Int} {i:Nat} {p:ByteArray} {ps:List ByteArray} (h:blkT p=none):fileL z b i (p :: ps)=[]:=by
 rw[fileL,h]
theorem fileL_size {z b:Int} {i:Nat} {p t:ByteArray} {ps:List ByteArray} (h:blkT p=some t) (hz:¬(t.size:Int)=mustN z b i):fileL z b i (p :: ps)=[]:=by
 rw[fileL,h];exact if_neg hz
noncomputable def fileV (z b:Int) (r:ByteArray) (l:List ByteArray):ByteArray:=if 400<l.length then ⟨#[]⟩ else ⟨(cat (fileL z b 0 (l.take (countN z b r)))).toArray⟩
def FileF (z b:Int) (q:List ByteArray) (k:Nat) (D:List ByteArray):Prop:=D.length=k/\(∀ x∈D,(x.size:Int)<=b)/\fileL z b 0 q=D++fileL z b k (q.drop k)
theorem file_none (z b:Int) (q:List ByteArray):FileF z b q 0 []:=⟨rfl,fun _ h=>absurd h (List.not_mem_nil),rfl⟩
theorem file_next {z b:Int} {q D:List ByteArray} {k:Nat} {t:ByteArray} (h:FileF z b q k D) (hk:k<q.length) (ht:blkT q[k]=some t) (hz:(t.size:Int)=mustN z b k):FileF z b q (k+1) (D++[t]):=by
 refine⟨by rw[List.length_append,h.1];rfl,fun x hx=>?_,?_⟩
 ·rcases List.mem_append.1 hx with h1|h1
  ·exact h.2.1 x h1
  ·rw[List.mem_singleton]at h1
   subst h1;rw[hz];unfold mustN;omega
 ·rw[h.2.2,List.drop_eq_getElem_cons hk,fileL_next ht hz,List.append_assoc]
  rfl
theorem file_stop {z b:Int} {q D:List ByteArray} {k:Nat} (h:FileF z b q k D) (hk:k<q.length) (hs:blkT q[k]=none∨∃ t,blkT q[k]=some t/\¬(t.size:Int)=mustN z b k):fileL z b 0 q=D:=by
 rw[h.2.2,List.drop_eq_getElem_cons hk]
 rcases hs with h1|⟨t,h1,h2⟩
 ·rw[fileL_none h1,List.append_nil]
 ·rw[fileL_size h1 h2,List.append_nil]
theorem file_end {z b:Int} {q D:List ByteArray} {k:Nat} (h:FileF z b q k D) (hk:q.length<=k):fileL z b 0 q=D:=by
 rw[h.2.2,List.drop_eq_nil_of_le hk];exact List.append_nil _
theorem cat_le (m:Nat):∀ D:List ByteArray,(∀ x∈D,x.size<=m)->(cat D).length<=m*D.length
 |[],_=>by simp[cat]
 |x :: D,h=>by
  have h1:=cat_le m D fun y hy=>h y (List.mem_cons_of_mem _ hy);have h2:=h x List.mem_cons_self
  have e:cat (x :: D)=x.data.toList++cat D:=by simp[cat]
  rw[e,List.length_append,List.length_cons,Nat.mul_add,Array.length_toList]
  show x.size+_<=_
  omega
end Ls
namespace Up
open Pk
open Sh (bt)
def cutR:Go.Shelf.Ren:=⟨fun|206=>153|n=>n,fun|9=>9|4=>4|3=>3|n=>n,fun|n=>n⟩
theorem cutL:Go.Proofs.Lays.n206 prog cutR:={
 mixed:=by kernel_rfl
 f206:=func153.trans (congrArg some (by kernel_rfl))
 t3:=underlying3
 a3:=Tryz.isAgg3
 z3:=Tryz.sizeOf3
 v3:=Tryz.zeroValue3
 t4:=underlying4
 a4:=Tryz.isAgg4
 z4:=Tryz.sizeOf4
 v4:=Tryz.zeroValue4
 t9:=underlying9
 a9:=Tryz.isAgg9
 z9:=Tryz.sizeOf9
 v9:=Tryz.zeroValue9 }
theorem has_one (t:ByteArray) (k:UInt8):Lib.hasPrefix t.data.toList [k]=decide (0<t.size/\bt t 0=k.toNat):=by
 have hz:t.size=t.data.toList.length:=by rw[Array.length_toList];rfl
 have hb:bt t 0=(t.data.toList.getD 0 0).toNat:=by
  unfold Sh.bt;simp
 rw[hz,hb]
 cases t.data.toList with
 |nil=>simp[Lib.hasPrefix]
 |cons x l =>
  have e:Lib.hasPrefix (x :: l) [k]=(k==x):=by
   show [k].isPrefixOf (x :: l)=_
   simp[List.isPrefixOf]
  rw[e];by_cases h:k=x
  ·subst h
   simp
  ·have h2:¬x.toNat=k.toNat:=fun q=>h (UInt8.toNat_inj.1 q).symm
   rw[beq_eq_false_iff_ne.2 h,decide_eq_false];exact fun q=>h2 q.2
theorem size_ext (t:ByteArray):(t.extract 1 t.size).size<=t.size:=by
 rw[ByteArray.size_extract];omega
theorem cutLite_any (t:ByteArray) (k:UInt8) (w:World) (ht:t.size<=1048576) :
  Calls prog 152 #[.string t,.string ⟨#[k]⟩] w fun e w'=>((0<t.size/\bt t 0=k.toNat)/\e=.returned (.tuple #[.string (t.extract 1 t.size),.bool true])∨¬(0<t.size/\bt t 0=k.toNat)/\e=.returned (.tuple #[.string t,.bool false]))/\w'=w:=by
 have HP:=hideP (Any.stringslite_HasPrefix cutL t ⟨#[k]⟩ w);have HO:=hideP (has_one t k);by_cases h:0<t.size/\bt t 0=k.toNat
 ·rw[show (⟨#[k]⟩:ByteArray).data.toList=[k] from rfl,HO.o,decide_eq_true h]at HP
  have h1:(1:Int)<=(t.size:Int):=by omega
  go_enter func152,ntmps152
  go_wp2_with fail
  refine HP.o.mono ?_;rintro e w' ⟨rfl,rfl⟩;have hk:(⟨#[k]⟩:ByteArray).size=1:=rfl
  go_wp2_with fail
  go_ret2;exact⟨.inl ⟨h,rfl⟩,rfl⟩
 ·rw[show (⟨#[k]⟩:ByteArray).data.toList=[k] from rfl,HO.o,decide_eq_false h]at HP
  go_enter func152,ntmps152
  go_wp2_with fail
  refine HP.o.mono ?_;rintro e w' ⟨rfl,rfl⟩
  go_wp2_with fail
  go_ret2;exact⟨.inr ⟨h,rfl⟩,rfl⟩
theorem cut_any (t:ByteArray) (k:UInt8) (w:World) (ht:t.size<=1048576) :
  Calls prog 115 #[.string t,.string ⟨#[k]⟩] w fun e w'=>((0<t.size/\bt t 0=k.toNat)/\e=.returned (.tuple #[.string (t.extract 1 t.size),.bool true])∨¬(0<t.size/\bt t 0=k.toNat)/\e=.returned (.tuple #[.string t,.bool false]))/\w'=w:=by
 go_enter func115,ntmps115
 go_wp2_with fail
 refine(cutLite_any t k w ht).mono ?_;rintro e w' ⟨⟨h,rfl⟩|⟨h,rfl⟩,rfl⟩
 ·go_wp2_with fail
  go_ret2;exact⟨.inl ⟨h,rfl⟩,rfl⟩
 ·go_wp2_with fail
  go_ret2;exact⟨.inr ⟨h,rfl⟩,rfl⟩
theorem has_any (t:ByteArray) (k:UInt8) (w:World) :
  Calls prog 116 #[.string t,.string ⟨#[k]⟩] w fun e w'=>e=.returned (.bool (decide (0<t.size/\bt t 0=k.toNat)))/\w'=w:=by
 have:=Bi.prefix_any t ⟨#[k]⟩ w
 rw[show (⟨#[k]⟩:ByteArray).data.toList=[k] from rfl,has_one t k]at this;exact this
theorem read_block (ev:Value) (HS:Hid (∀ (s:ByteArray) (w:World),Glob w ev->1<=s.size->s.size<=8000->Calls prog 117 #[.string s] w fun e w'=>(∃ r v,e=.returned (.tuple #[.string r,v])/\(v=.nilIface∨v=ev)/\r.size<=8000/\∀ b,Good s b->r=b/\v=.nilIface)/\Below w.heap.size w w'))
  (t:ByteArray) (w:World) (ht:t.size<=8000) (hg:Glob w ev) :
  Calls prog 82 #[.string t] w fun e w'=>(∃ r v,e=.returned (.tuple #[.string r,v])/\(v=.nilIface∨v=ev)/\r.size<=8000/\∀ b:ByteArray,b.size<=48->innerV b=t->r=b/\v=.nilIface)/\Below w.heap.size w w':=by
 have HG:=hideP hg;have g0:w.cell? ⟨0,0,none⟩=some ev:=hg.2;clear hg;go_enter func82,ntmps82
 go_wp2_with fail
 refine(cut_any t 0 w (by omega)).mono ?_;rintro e w' ⟨⟨h,rfl⟩|⟨h,rfl⟩,rfl⟩
 ·go_wp2_with fail
  go_ret2;refine⟨⟨_,_,rfl,.inl rfl,by have:=size_ext t;omega,fun b h1 h2=>?_⟩,Below.refl _ _⟩
  rcases inner_case h1 h2 with k|k
  ·have q1:=k.2.2
   have q2:bt t 0=0:=h.2;omega
  ·exact⟨k.2.2.2,rfl⟩
 ·have H0:=hideP h
  clear h
  go_wp2_with fail
  refine(has_any t 1 _).mono ?_;rintro e w2 ⟨rfl,rfl⟩;by_cases h1:0<t.size/\bt t 0=(1:UInt8).toNat
  ·rw[decide_eq_true h1]
   have H1:=hideP h1;clear h1
   go_wp2_with fail
   refine(HS.o t _ HG.o (by have:=H1.o.1;omega) ht).mono ?_;rintro e w3 ⟨⟨r,v,rfl,hv,hrz,hr⟩,hb⟩;have HV:=hideP hv;have HR:=hideP hr;have HB:=hideP hb;clear hv hr hb
   go_wp2_with fail
   go_ret2;refine⟨⟨_,_,rfl,HV.o,hrz,fun b h1 h2=>?_⟩,HB.o⟩
   rcases inner_case h1 h2 with k|k
   ·exact HR.o b k.1
   ·exact absurd ⟨k.2.1,k.2.2.1⟩ H0.o
  ·rw[decide_eq_false h1]
   have H1:=hideP h1;clear h1
   go_wp2_with fail
   go_quiet (fail)
   go_wp2_with fail
   go_ret2;refine⟨⟨_,_,rfl,.inr rfl,by decide,fun b h1 h2=>?_⟩,below_drewN (Below.refl _ _) _⟩
   rcases inner_case h1 h2 with k|k
   ·exact absurd ⟨k.2.1,k.2.2⟩ H1.o
   ·exact absurd ⟨k.2.1,k.2.2.1⟩ H0.o
end Up
namespace Up
open Pk
theorem eq_nil (tid:TypeId) (pv:Value) (u:World):Sem.run prog (binOp BinOp.eql 85 .nilIface (.iface tid pv)) u=.ok (.bool false) u:=by kernel_rfl
theorem is_nil (tid:TypeId) (pv:Value) (w:World) :
  Calls prog 83 #[.nilIface,.iface tid pv] w fun e w'=>e=.returned (.bool false)/\w'=w:=by
 have heq:=eq_nil tid pv;go_enter func83,ntmps83
 go_wp2
 go_ret;exact⟨rfl,rfl⟩
end Up
end Go.Proofs.YtbdcffjcogglbaaGreatDoor
