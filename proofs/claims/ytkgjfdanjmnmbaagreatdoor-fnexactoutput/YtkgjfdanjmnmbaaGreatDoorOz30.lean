/- Texts put together: SoRow, SoStill, SoIter, SoCmpT, OrdPlain, BwtPlain, FrontPlain, ZeroBack, CrcPlain, CrcWalks. -/
import Derived.Test.YtkgjfdanjmnmbaaGreatDoorOz29
import Derived.Test.YtkgjfdanjmnmbaaGreatDoorChecked
import Derived.Shelf.SlSortCmp.InsertionK
import Derived.WalkKit
import Derived.WalkSpells
import Derived.WalkLawsBesides
import Derived.BigRegion
import Derived.BigQuiet
import Derived.Deep.QuietTactic
import Derived.StillTail
import Derived.OrdersIn
import Derived.CallsIn
import Derived.OwnWalkIn
import Derived.TacticsInMore
import Derived.StillTailTactics
import Derived.RangeFuncNested
import Derived.RangeFuncBound
import Derived.RangeFuncCalls
import Derived.RangeFuncLeaves
import Derived.RangeFuncBox
import Derived.Shelf.Abstract
import Derived.Shelf.RegionOpen
import Derived.LoopNIn
import Derived.LoopIn
import Derived.Maps.AppendAt
import Derived.Stop.RegionWithIn
import Derived.Test.YtkgjfdanjmnmbaaGreatDoorOz7
import Derived.Test.YtkgjfdanjmnmbaaGreatDoorOz26
import Derived.Test.YtkgjfdanjmnmbaaGreatDoorOz1
import Derived.Laws.BitsAllLaws
set_option maxRecDepth 100000
set_option maxHeartbeats 8000000
/- Rows of places in memory, as a sort in place passes through them; and the plain row that each is. -/
namespace Go.Proofs.YtkgjfdanjmnmbaaGreatDoor.So
open Go.RowKit Go.Sort Go.Proofs
theorem hideO {p:Prop} (h:p):Hid p:=h
def dF (d:Array Nat):Nat->Nat:=fun i=>d[i]!
theorem dF_swp (d:Array Nat) (i j:Nat) (hi:i<d.size) (hj:j<d.size):dF (Go.Sort.swp d i j)=So.swp (dF d) i j:=by
 funext k
 unfold dF So.swp
 rw[Go.Sort.swp_get d hi hj]
theorem dF_out (d:Array Nat) (i:Nat) (h:d.size<=i):dF d i=0:=by
 unfold dF
 rw[getElem!_neg d i (by omega)]
 rfl
theorem mixed:Tryz.prog.follows .mixedOrders=true:=by kernel_rfl
def encT (T:Nat->ByteArray) (x:Nat):List Value:=[.int .i64 x,.string (T x)]
theorem encT_len (T:Nat->ByteArray):∀ x,(encT T x).length=2:=fun _=>rfl
theorem cells_T {T:Nat->ByteArray} {w:World} {blk:Nat} {d:Array Nat} (h:HoldsK (encT T) 2 w blk 0 d) {i:Nat} (hi:i<d.size) :
  w.cell? ⟨blk,i*2,none⟩=some (.int .i64 (d[i]!:Nat))/\w.frozen? ⟨blk,i*2,none⟩=false/\w.cell? ⟨blk,i*2+1,none⟩=some (.string (T d[i]!))/\w.frozen? ⟨blk,i*2+1,none⟩=false:=by
 have x0:=h.cell (i:=i) (c:=0) hi (by omega)
 have x1:=h.cell (i:=i) (c:=1) hi (by omega)
 rw[Nat.zero_add,Nat.add_zero]at x0
 rw[Nat.zero_add]at x1
 exact⟨x0.1,x0.2,x1.1,x1.2⟩
def encI (x:Nat):List Value:=[.int .i64 x]
theorem encI_len:∀ x,(encI x).length=1:=fun _=>rfl
section
variable {enc : Nat → List Value} {k : Nat} {w : World} {blk off : Nat} {d : Array Nat}
theorem world_self (h:HoldsK enc k w blk off d):w=sortWorldK enc k w blk off 0 d #[]:=by
 unfold sortWorldK
 rw[grow_empty]
 exact(putRowK_self enc k w blk off d h).symm
theorem world_holds (h:HoldsK enc k w blk off d) (hb:blk<w.heap.size) (m:Nat) (d':Array Nat) (os:Array Obj) (hs:d'.size=d.size):HoldsK enc k (sortWorldK enc k w blk off m d' os) blk off d' :=
 holdsK_sortWorldK_c enc k w blk off d d' m os h hb hs
theorem world_size (m:Nat) (d':Array Nat) (os:Array Obj):w.heap.size<=(sortWorldK enc k w blk off m d' os).heap.size:=size_sortWorldK_c enc k w blk off m d' os
theorem world_world (m n:Nat) (d' d'':Array Nat) (os os':Array Obj) (hb:blk<w.heap.size) (hs:d''.size=d'.size) :
  sortWorldK enc k (sortWorldK enc k w blk off m d' os) blk off n d'' os'=sortWorldK enc k w blk off (m+n) d'' (os++os'):=by
 unfold sortWorldK
 exact grow_step_growK enc k w os os' m n blk off d' d'' hb hs
theorem world_block (m:Nat) (d':Array Nat) (os:Array Obj) {j:Nat} (hj:j<w.heap.size) (hne:j≠blk):(sortWorldK enc k w blk off m d' os).heap[j]? = w.heap[j]?:=by
 unfold sortWorldK
 rw[heap_grow_old _ _ (by rw[size_putRowK];exact hj)]
 unfold putRowK putRow mapBlock
 simp only[Array.getElem?_modify]
 rw[if_neg (fun h=>hne h.symm)]
 rfl
theorem world_below (m:Nat) (d':Array Nat) (os:Array Obj) {B:Nat} (hB:B<=blk) (hw:B<=w.heap.size):Below B w (sortWorldK enc k w blk off m d' os) :=
 ⟨rfl,rfl,rfl,world_size m d' os,fun j hj=>world_block m d' os (by omega) (by omega)⟩
theorem holds_block {w':World} (h:HoldsK enc k w blk off d) (e:w'.heap[blk]? = w.heap[blk]?):HoldsK enc k w' blk off d:=by
 intro j hj
 have:=h j hj
 simp only[World.cell?,World.frozen?]at this ⊢
 rw[e]
 exact this
end
end Go.Proofs.YtkgjfdanjmnmbaaGreatDoor.So


/- A region that draws its order inside the widest fence: what only reads comes first, in the order of the text; the rest comes behind, one after another. -/
namespace Go.Proofs.YtkgjfdanjmnmbaaGreatDoor.So
open Go.RowKit
section
variable {P : Program} {md : Region.Mode} {ops : Array Oper} {w : World}
theorem wpIn_of_still {n:Nat} {o:Oper} {a:Act} {K:Act->Prop} {K':Act->World->Prop} {Q':Exit->Act->World->Prop} (h:∀ a,K a->K' a w) (hh:o.still P a w K):o.wpIn Fence.wide n P a w K' Q':=by
 refine⟨fun _ _=>trivial,?_⟩
 unfold Oper.still at hh
 have e:(o.semAt Fence.wide.round a.eval)=execOp a.eval o:=rfl
 rw[e]
 generalize (execOp a.eval o).run P w=r at hh
 cases r with
 |ok nx w' =>
  cases nx with
  |value v =>
   simp only[Oper.stillUpon]at hh
   obtain⟨rfl,hh⟩:=hh
   exact h _ hh
  |skip =>
   simp only[Oper.stillUpon]at hh
   obtain⟨rfl,hh⟩:=hh
   exact h _ hh
  |enter f args =>
   simp only[Oper.stillUpon]at hh
   obtain⟨rfl,v,hc,hh⟩:=hh
   refine⟨fun hx=>(by cases hx),callsIn_wide.2 (hc.mono ?_)⟩
   rintro e w'' ⟨rfl,rfl⟩
   exact h _ hh
  |_=>simp only[Oper.stillUpon]at hh
 |_=>simp only[Oper.stillUpon]at hh
theorem wpOpIn_of_stOp {n i:Nat} {a:Act} {K:Act->Prop} {K':Act->World->Prop} {Q':Exit->Act->World->Prop} (h:∀ a,K a->K' a w) (hh:stOp P ops w i K a):wpOpIn Fence.wide n P ops Q' i K' a w:=by
 unfold stOp at hh
 unfold wpOpIn
 split
 ·rename_i ho;simp only[ho]at hh;exact h _ hh
 ·rename_i o ho
  simp only[ho]at hh
  split
  ·rename_i hw;simp only[hw,if_true]at hh;exact wpIn_of_still h hh
  ·rename_i hw;simp only[hw]at hh;exact⟨fun _ _=>trivial,h _ hh⟩
theorem wpAnyIn_of_head {n k g:Nat} {L:Array Bool->Act->Prop} {Q':Exit->Act->World->Prop} (hL:∀ listed a,L listed a->wpAnyIn Fence.wide k P md ops Q' g listed a w) :
  ∀ (f:Nat) (listed:Array Bool) (a:Act),wpAnyL P md ops w n L f listed a->wpAnyIn Fence.wide k P md ops Q' (f+g) listed a w
 |0,listed,a,h=>by rw[Nat.zero_add];exact hL _ _ h
 |f+1,listed,a,h=>by
  rw[show f+1+g=(f+g)+1 by omega]
  exact⟨fun h0=>absurd h0 h.1,fun i hi=>wpOpIn_of_stOp (fun a' h'=>wpAnyIn_of_head hL f _ a' h') (h.2 i hi).2⟩
theorem wpAnyIn_of_seq {k0:Nat} {Q':Exit->Act->World->Prop}:∀ (l:List Oper) (k:Nat) (listed:Array Bool) (a:Act) (w:World),(∀ j,l[j]? = ops[k+j]?) ->
  Region.seqB md ops l.length k listed=true->wpListIn Fence.wide k0 P ops Q' l a w->wpAnyIn Fence.wide k0 P md ops Q' l.length listed a w
 |[],_,_,_,_,_,hB,h=>⟨by simpa [Region.seqB] using hB,h⟩
 |o :: l,k,listed,a,w,hl,hB,h=>by
  have h0:ops[k]? = some o:=by simpa using (hl 0).symm
  simp only[List.length_cons,Region.seqB,Bool.and_eq_true,decide_eq_true_eq]at hB
  refine⟨fun h1=>(by rw[hB.1]at h1;cases h1),fun i hi=>?_⟩
  rw[hB.1]at hi
  have hik:i=k:=by simpa using hi
  subst hik
  have hw:wpOpIn Fence.wide k0 P ops Q' i (wpListIn Fence.wide k0 P ops Q' l) a w:=by unfold wpOpIn;simp only[h0];exact h
  exact wpOpIn_mono (fun a' w' h'=>wpAnyIn_of_seq l (i+1) _ a' w' (fun j=>by have:=hl (j+1);simpa [Nat.add_assoc,Nat.add_comm 1 j] using this) hB.2 h') hw
theorem wpIn_region_still_tail {id k0:Nat} {Q:Exit->Act->World->Prop} {a:Act} {l:List Oper} (n:Nat) (hm:P.follows .mixedOrders=true) (hB:Region.lexTailB .any l.toArray n=true)
  (h:wpStill P l.toArray w.drew (fun a'=>wpListIn Fence.wide k0 P l.toArray Q (l.drop n) a' w.drew) (l.take n) a):(Code.region id l.toArray true).wpIn Fence.wide k0 P Q a w:=by
 simp only[Region.lexTailB,Bool.and_eq_true,decide_eq_true_eq]at hB
 obtain⟨⟨⟨⟨hsel,hn⟩,hs⟩,hc⟩,hlex⟩:=hB
 have hn':n<l.length:=by simpa using hn
 have htl:(l.take n).length=n:=by simp;omega
 have hdl:(l.drop n).length=l.toArray.size-n:=by simp
 have inv0:HeadInv .any l.toArray n (Array.replicate l.toArray.size false) :=
  ⟨by simp,fun j oj _ hl=>(by rw[getD_replicate_false]at hl;cases hl),fun t _ ht=>getD_in (by simpa using ht) (getD_replicate_false _ _)⟩
 have H:=wpAnyL_lex (md:=.any) (g:=l.toArray.size-n) hsel hs hc hn (l.take n) 0 _ a (fun j hj=>by
  have hj':j<n:=by rw[htl]at hj;exact hj
  simp[hj']) (by simpa using htl) inv0 (by rw[htl];exact hlex) h
 refine wpIn_region_any hm ?_
 have:=wpAnyIn_of_head (k:=k0) (Q':=Q) (g:=l.toArray.size-n) (fun listed a' hL=>by
  have:=wpAnyIn_of_seq (k0:=k0) (md:=.any) (Q':=Q) (l.drop n) n listed a' w.drew (fun j=>by simp[List.getElem?_drop]) (by rw[hdl];exact hL.1) hL.2
  rwa[hdl]at this) _ _ _ H
 rw[htl,show n+(l.toArray.size-n)=l.toArray.size by omega]at this
 exact this
end
end Go.Proofs.YtkgjfdanjmnmbaaGreatDoor.So


namespace Go.Proofs.YtkgjfdanjmnmbaaGreatDoor.So
open Go.RowKit Go.Sort Go.Proofs Go.Shelf
attribute [local go_sem] Oper.semAt_some
def turnV (t:ByteArray) (x:Nat):ByteArray:=t.extract x t.size++t.extract 0 x
theorem turnsOf_in (F:Fence) (n:Nat) (hf:F.fn 173) (hro:F.round=none) (t:ByteArray) (w:World) :
  CallsIn F n Tryz.prog 173 #[.string t] w fun e w'=>e=.returned (.func (.func 193) #[] #[.pointer (some ⟨w.heap.size,0,none⟩)])/\w'=w.alloc (.cells #[.string t] 9):=by
 refine callsIn_of_wp Tryz.func173 rfl hf ?_ hro
 simp only[Tryz.ntmps173,List.size_toArray,List.length_cons,List.length_nil,Nat.reduceAdd,Nat.reduceSub,Array.replicate_succ,Array.replicate_zero,List.push_toArray,List.append_toArray,List.nil_append,List.cons_append]
 gi_wp2
 go_ret
 exact⟨rfl,rfl⟩
def KeepB (Bn:Nat) (W W':World):Prop:=W'.cell? ⟨Bn,0,none⟩=W.cell? ⟨Bn,0,none⟩
theorem KeepB.trans {Bn:Nat} {A B C:World} (h1:KeepB Bn A B) (h2:KeepB Bn B C):KeepB Bn A C:=Eq.trans h2 h1
theorem turns1_in (n:Nat) (l Bn:Nat) (t:ByteArray) (ht:t.size<=1048576) (J Jx:List Nat->World->Prop)
  (hY:∀ pre x W,J pre W->pre.length<t.size->YieldAt Fence.wide (n-1) Tryz.prog l #[.agg #[.int .i64 (x:Nat),.string (turnV t x)]] W fun e W' =>
   (e=.returned (.bool true)/\J (pre++[x]) W'/\KeepB Bn W W')∨(e=.returned (.bool false)/\Jx (pre++[x]) W'))
  (hA:∀ s A B,J s A->A.grownBy B none->J s B) (W:World) (hBn:W.cell? ⟨Bn,0,none⟩=some (.string t)) (h0:J [] W) :
  CallsIn Fence.wide n Tryz.prog 193 #[.func (.yield l) #[] #[],.pointer (some ⟨Bn,0,none⟩)] W fun e W'=>(∃ v,e=.returned v) /\
   ((∃ ys,ys=List.range t.size/\J ys W')∨(∃ pre,pre <+: List.range t.size/\Jx pre W')):=by
 have mixed:=mixed
 refine callsIn_of_wp Tryz.func193 rfl trivial ?_ rfl
 simp only[Tryz.ntmps193,List.size_toArray,List.length_cons,List.length_nil,Nat.reduceAdd,Nat.reduceSub,Array.replicate_succ,Array.replicate_zero,List.push_toArray,List.append_toArray,List.nil_append,List.cons_append]
 gi_wp2
 gi_loopw [6] (fun p wr=>∃ k:Nat,p=.int .i64 k/\k<=t.size/\wr.cell? ⟨Bn,0,none⟩=some (.string t)/\J (List.range k) wr) (fun p _=>t.size-(intOf p).toNat)
 case atStart=>exact⟨0,rfl,Nat.zero_le _,hBn,h0⟩
 case round =>
  obtain⟨k,rfl,hk,hc,hJ⟩:=hrel
  by_cases hlt:k<t.size
  ·obtain⟨fn,tmps,assign,body,hy,hR⟩:=hY (List.range k) k wr.drew (hA _ _ _ hJ ⟨rfl,rfl,rfl,Nat.le_refl _,fun _ _ _=>rfl⟩) (by simpa using hlt)
   unfold turnV at hy
   have hc':wr.drew.cell? ⟨Bn,0,none⟩=some (.string t):=hc
   have hlt':(k:Int)<(t.size:Int):=by omega
   have hle:(k:Int)<=(t.size:Int):=by omega
   have hge:¬(t.size:Int)<(k:Int):=by omega
   have hq0:(t.extract k t.size).size+(t.extract 0 k).size<=9223372036854775807:=by simp;omega
   gi_wp2
   refine wpIn_region_still_tail 10 mixed (by kernel_rfl) ?_
   simp only[List.take,List.drop]
   repeat still_step
   generalize t.extract k t.size=A at hq0 hy ⊢
   generalize t.extract 0 k=B at hq0 hy ⊢
   have hq4:¬A.size+B.size > 9223372036854775807:=by omega
   have hq5:¬9223372036854775807<A.size+B.size:=by omega
   repeat still_step
   refine wpStill_nil ?_
   gi_wp2
   refine⟨fun hx=>(by cases hx),hR.mono ?_⟩
   rintro e W3 (⟨rfl,hJ3,hk3⟩|⟨rfl,hJx3⟩)
   ·have hc3:W3.cell? ⟨Bn,0,none⟩=some (.string t):=(show W3.cell? ⟨Bn,0,none⟩=wr.drew.cell? ⟨Bn,0,none⟩ from hk3).trans hc'
    gi_wp2
    go_roundw
    case rel=>exact⟨k+1,by go_num,by omega,hc3,by rw[List.range_succ];exact hJ3⟩
    case measure=>simp[intOf];omega
   ·gi_wp2
    refine bodyPost_ret (results_none rfl _ _ _) rfl ?_
    refine⟨⟨_,rfl⟩,.inr ⟨List.range k++[k],?_,hJx3⟩⟩
    rw[<-List.range_succ]
    exact List.prefix_iff_eq_take.2 (by rw[List.length_range,List.take_range,Nat.min_eq_left hlt])
  ·obtain rfl:k=t.size:=by omega
   have hge:¬(t.size:Int)<(t.size:Int):=by omega
   gi_wp2
   go_end0
   exact⟨⟨_,rfl⟩,.inl hJ⟩
theorem turns_stops (n Bn:Nat) (t:ByteArray) (ht:t.size<=1048576) (w:World) (hBn:Bn<w.heap.size) (hc:w.cell? ⟨Bn,0,none⟩=some (.string t)) :
  SeqStopsK Fence.wide n Tryz.prog 193 #[.pointer (some ⟨Bn,0,none⟩)] (fun x:Nat=>#[Value.agg #[.int .i64 (x:Nat),.string (turnV t x)]]) (KeepB Bn) (fun ys=>ys=List.range t.size) (fun pre=>pre <+: List.range t.size) t.size w:=fun l J Jx W hW hJ _ hY h0 =>
 turns1_in n l Bn t ht J Jx hY (fun s A B h1 h2=>hJ s A B none h1 h2 (fun r e=>by cases e)) W ((hW.cell (p:=⟨Bn,0,none⟩) hBn).trans hc) h0
end Go.Proofs.YtkgjfdanjmnmbaaGreatDoor.So


namespace Go.Proofs.YtkgjfdanjmnmbaaGreatDoor.So
open Go.RowKit Go.Sort Go.Proofs
theorem bless_eq:∀ (x y:List UInt8),Op.bytesLess x y=decide (x<y)
 |[],[]=>by simp[Op.bytesLess]
 |_ :: _,[]=>by simp[Op.bytesLess]
 |[],_ :: _=>by simp[Op.bytesLess]
 |a :: x,b :: y=>by
  rw[Op.bytesLess,bless_eq x y]
  simp only[List.cons_lt_cons_iff]
  by_cases h1:a<b<;>by_cases h2:a=b<;>simp[h1,h2]
def clT (T:Nat->ByteArray) (x y:Nat):Bool:=Op.bytesLess (T x).toList (T y).toList
theorem clT_weak (T:Nat->ByteArray):Weak (clT T) where
 irrefl x:=by simp[clT,bless_eq,List.lt_irrefl]
 trans x y z h1 h2:=by
  simp only[clT,bless_eq,decide_eq_true_eq]at *
  exact List.lt_trans h1 h2
 ntrans x y z h1 h2:=by
  simp only[clT,bless_eq,decide_eq_false_iff_not,List.not_lt]at *
  exact List.le_trans h2 h1
def cfT (T:Nat->ByteArray) (x y:Nat):Int:=if Op.bytesLess (T x).toList (T y).toList=true then -1 else if ((T x).toList==(T y).toList)=true then 0 else 1
theorem cfT_neg (T:Nat->ByteArray) (x y:Nat):decide (cfT T x y<0)=clT T x y:=by
 unfold cfT clT
 cases Op.bytesLess (T x).toList (T y).toList with
 |true=>rfl
 |false =>
  cases ((T x).toList==(T y).toList)<;>rfl
theorem nan_S (s:ByteArray) (w:World):Calls Tryz.prog 209 #[.string s] w fun e w'=>e=.returned (.bool false)/\w'=w:=by
 go_enter Tryz.func209,Tryz.ntmps209
 go_wp2_with fail
 go_ret
 exact⟨rfl,rfl⟩
theorem compare_S (s t:ByteArray) (w:World):Calls Tryz.prog 195 #[.string s,.string t] w fun e w'=>e=.returned (.int .i64 (if Op.bytesLess s.toList t.toList=true then -1 else if (s.toList==t.toList)=true then 0 else 1))/\w'=w:=by
 cases h1:Op.bytesLess s.toList t.toList with
 |true =>
  rw[if_pos rfl]
  go_enter Tryz.func195,Tryz.ntmps195
  go_wp2_with fail
  refine(nan_S s w).mono ?_
  rintro e w' ⟨rfl,hw⟩
  subst w'
  go_wp2_with fail
  refine(nan_S t w).mono ?_
  rintro e w' ⟨rfl,hw⟩
  subst w'
  go_wp2_with fail
  go_ret
  exact⟨rfl,rfl⟩
 |false =>
  rw[if_neg Bool.false_ne_true]
  cases h2:(s.toList==t.toList) with
  |true =>
   rw[if_pos rfl]
   have h3:(!(Op.bytesLess s.toList t.toList || s.toList==t.toList))=false:=by rw[h1,h2];rfl
   go_enter Tryz.func195,Tryz.ntmps195
   go_wp2_with fail
   refine(nan_S s w).mono ?_
   rintro e w' ⟨rfl,hw⟩
   subst w'
   go_wp2_with fail
   refine(nan_S t w).mono ?_
   rintro e w' ⟨rfl,hw⟩
   subst w'
   go_wp2_with fail
   go_ret
   exact⟨rfl,rfl⟩
  |false =>
   rw[if_neg Bool.false_ne_true]
   have h3:(!(Op.bytesLess s.toList t.toList || s.toList==t.toList))=true:=by rw[h1,h2];rfl
   go_enter Tryz.func195,Tryz.ntmps195
   go_wp2_with fail
   refine(nan_S s w).mono ?_
   rintro e w' ⟨rfl,hw⟩
   subst w'
   go_wp2_with fail
   refine(nan_S t w).mono ?_
   rintro e w' ⟨rfl,hw⟩
   subst w'
   go_wp2_with fail
   go_ret
   exact⟨rfl,rfl⟩
theorem alloc2_grow (w:World) (o p:Obj):(w.alloc o).alloc p=grow (w.drewN 0) #[o,p]:=by
 have e:(w.heap.push o).push p=w.heap++#[o,p]:=by
  apply Array.ext'
  simp
 unfold World.alloc grow World.drewN
 simp only
 rw[e]
 rfl
theorem cmp_T (T:Nat->ByteArray) (x y:Nat) (w:World):Calls Tryz.prog 175 #[.agg (encT T x).toArray,.agg (encT T y).toArray] w fun e w'=>e=.returned (.int .i64 (cfT T x y))/\∃ q os',w'=grow (w.drewN q) os':=by
 have HC:=hideO (fun W=>compare_S (T x) (T y) W)
 unfold cfT
 generalize (if Op.bytesLess (T x).toList (T y).toList=true then (-1:Int) else if ((T x).toList==(T y).toList)=true then 0 else 1)=r at HC ⊢
 unfold encT
 go_enter Tryz.func175,Tryz.ntmps175
 go_wp2_with fail
 refine(HC.out _).mono ?_
 rintro e w' ⟨rfl,hw⟩
 subst w'
 go_wp2_with fail
 go_ret
 exact⟨rfl,0,_,alloc2_grow _ _ _⟩
end Go.Proofs.YtkgjfdanjmnmbaaGreatDoor.So


/- Plain mathematics of the order of a block's turns. -/
namespace Go.Proofs.YtkgjfdanjmnmbaaGreatDoor.So
open Go.RowKit
def OrdOk (t:ByteArray) (l:List Nat):Prop:=l.Perm (List.range t.size)/\l.Pairwise (lx (clT (turnV t)))
theorem ord_unique {t:ByteArray} {l l':List Nat} (h:OrdOk t l) (h':OrdOk t l'):l=l' :=
 List.Perm.eq_of_pairwise (fun _ _ _ _ h1 h2=>(lx_asymm (clT_weak _) h1 h2).elim) h.2 h'.2 (h.1.trans h'.1.symm)
open Classical in
noncomputable def ord (t:ByteArray):List Nat:=if h:∃ l,OrdOk t l then Classical.choose h else []
theorem ord_of {t:ByteArray} {l:List Nat} (h:OrdOk t l):ord t=l:=by
 have hex:∃ l,OrdOk t l:=⟨l,h⟩
 unfold ord
 rw[dif_pos hex]
 exact ord_unique (Classical.choose_spec hex) h
def ints (l:List Nat):List Int:=l.map fun x=>((x:Nat):Int)
theorem ints_len (l:List Nat):(ints l).length=l.length:=by simp[ints]
theorem ints_snoc (l:List Nat) (x:Nat):ints (l++[x])=ints l++[(x:Int)]:=by simp[ints]
noncomputable def ordR (t:ByteArray):List Int:=if t.size<=48 then ints (ord t) else []
theorem seg_len (f:Nat->Nat) (a b:Nat):(seg f a b).length=b-a:=by simp[seg]
theorem seg_pairwise {cl:Nat->Nat->Bool} {f:Nat->Nat} {n:Nat} (h:Ris cl 0 n f):(seg f 0 n).Pairwise (lx cl):=by
 rw[List.pairwise_iff_getElem]
 intro i j hi hj hij
 rw[seg_len]at hi hj
 have e:∀ k (hk:k<(seg f 0 n).length),(seg f 0 n)[k]=f k:=fun k hk=>by simp[seg]
 rw[e,e]
 exact h i j (Nat.zero_le _) hij (by omega)
theorem ord_seg {t:ByteArray} {f:Nat->Nat} (hp:(seg f 0 t.size).Perm (List.range t.size)) (hr:Ris (clT (turnV t)) 0 t.size f):OrdOk t (seg f 0 t.size):=⟨hp,seg_pairwise hr⟩
theorem ord_put {cl:Nat->Nat->Bool} (hw:Weak cl) {l:List Nat} {k p:Nat} (hp:l.Perm (List.range k)) (hs:l.Pairwise (lx cl)) (hl:p<=l.length) (hhi:∀ j (h:j<l.length),p<=j->cl k l[j]=true) (hlo:p=0∨∃ h:p-1<l.length,cl k l[p-1]=false) :
  (l.take p++[k]++l.drop p).Perm (List.range (k+1))/\(l.take p++[k]++l.drop p).Pairwise (lx cl):=by
 refine⟨?_,?_⟩
 ·rw[List.range_succ]
  have h1:(l.take p++[k]++l.drop p).Perm (l.take p++l.drop p++[k]):=by
   rw[List.append_assoc,List.append_assoc]
   exact List.Perm.append_left _ List.perm_append_comm
  rw[List.take_append_drop]at h1
  exact h1.trans (List.Perm.append_right _ hp)
 ·have hlt:∀ x∈l,x<k:=fun x hx=>by
   have:=hp.mem_iff.1 hx
   simpa using this
  have hlow:∀ x∈l.take p,lx cl x k:=by
   intro x hx
   rcases hlo with h0|⟨h1,h2⟩
   ·subst h0;simp at hx
   ·obtain⟨j,hj,rfl⟩:=List.getElem_of_mem hx
    have hj':j<p:=by simp at hj;omega
    rw[List.getElem_take]
    have hq:lx cl l[p-1] k:=lx_no h2 (hlt _ (List.getElem_mem _))
    rcases Nat.lt_or_ge j (p-1) with e|e
    ·exact lx_trans hw (List.pairwise_iff_getElem.1 hs j (p-1) (by omega) h1 e) hq
    ·have:j=p-1:=by omega
     subst this
     exact hq
  have hhigh:∀ x∈l.drop p,lx cl k x:=by
   intro x hx
   obtain⟨j,hj,rfl⟩:=List.getElem_of_mem hx
   rw[List.getElem_drop]
   simp at hj
   exact lx_yes (hhi (p+j) (by omega) (by omega))
  rw[List.append_assoc,List.pairwise_append]
  refine⟨hs.sublist (List.take_sublist _ _),?_,?_⟩
  ·rw[List.singleton_append,List.pairwise_cons]
   exact⟨hhigh,hs.sublist (List.drop_sublist _ _)⟩
  ·intro x hx y hy
   rw[List.singleton_append]at hy
   rcases List.mem_cons.1 hy with e|hy
   ·rw[e];exact hlow x hx
   ·exact lx_trans hw (hlow x hx) (hhigh y hy)
end Go.Proofs.YtkgjfdanjmnmbaaGreatDoor.So


/- Plain mathematics of the last bytes of sorted turns. -/
namespace Go.Proofs.YtkgjfdanjmnmbaaGreatDoor.So
open Go.RowKit
open Sh (bt bt_get bt_lt strF strF_congr)
def lastB (t:ByteArray) (x:Nat):Nat:=bt t ((x+t.size-1)%t.size)
theorem turnV_size (t:ByteArray) (x:Nat) (hx:x<=t.size):(turnV t x).size=t.size:=by
 unfold turnV
 rw[ByteArray.size_append,ByteArray.size_extract,ByteArray.size_extract]
 omega
theorem turnV_list (t:ByteArray) (x:Nat):(turnV t x).data.toList=t.data.toList.drop x++t.data.toList.take x:=by
 unfold turnV
 simp[ByteArray.data_append,ByteArray.data_extract]
 rw[List.take_of_length_le (by simp)]
theorem turnV_last (t:ByteArray) (x:Nat) (hx:x<t.size):bt (turnV t x) (t.size-1)=lastB t x:=by
 unfold lastB bt
 rw[turnV_list]
 have hl:t.data.toList.length=t.size:=by simp
 simp only[List.getD_eq_getElem?_getD]
 by_cases h0:x=0
 ·subst h0
  rw[List.drop_zero,List.take_zero,List.append_nil,Nat.zero_add,Nat.mod_eq_of_lt (by omega)]
 ·rw[List.getElem?_append_right (by rw[List.length_drop];omega),List.length_drop,hl,List.getElem?_take_of_lt (by omega)]
  have e:(x+t.size-1)%t.size=x-1:=by
   rw[show x+t.size-1=(x-1)+t.size by omega,Nat.add_mod_right,Nat.mod_eq_of_lt (by omega)]
  rw[e,show t.size-1-(t.size-x)=x-1 by omega]
def atK (f:Nat->Nat):Nat->Nat
 |0=>0
 |k+1=>if f k=0 then k else atK f k
theorem atK_le (f:Nat->Nat) (k:Nat):atK f k<=k:=by
 induction k with
 |zero=>exact Nat.le_refl _
 |succ k ih=>unfold atK;split<;>omega
theorem atK_congr {f g:Nat->Nat} {n:Nat} (h:∀ j,j<n->f j=g j):∀ k,k<=n->atK f k=atK g k:=by
 intro k
 induction k with
 |zero=>intro _;rfl
 |succ k ih=>intro hk;unfold atK;rw[h k hk,ih (by omega)]
noncomputable def ordF (t:ByteArray):Nat->Nat:=fun j=>(ord t).getD j 0
theorem ordF_seg {t:ByteArray} {f:Nat->Nat} (h:OrdOk t (seg f 0 t.size)) (j:Nat) (hj:j<t.size):ordF t j=f j:=by
 unfold ordF
 rw[ord_of h,List.getD_eq_getElem?_getD,List.getElem?_eq_getElem (by rw[seg_len];omega)]
 simp[seg]
theorem ordF_list {t:ByteArray} {l:List Nat} (h:OrdOk t l) (j:Nat) (hj:j<l.length):ordF t j=l[j]:=by
 unfold ordF
 rw[ord_of h,List.getD_eq_getElem?_getD,List.getElem?_eq_getElem hj]
 rfl
noncomputable def bwtT (t:ByteArray):ByteArray:=if t.size<=48 then strF t.size (fun j=>lastB t (ordF t j)) else ⟨#[]⟩
noncomputable def bwtA (t:ByteArray):Nat:=if t.size<=48 then atK (ordF t) t.size else 0
def bwtC (t:ByteArray):Nat:=if 8000<t.size then 2 else if 48<t.size then 1 else 0
theorem bwt_yes {t:ByteArray} {f:Nat->Nat} (ht:t.size<=48) (h:∀ j,j<t.size->ordF t j=f j):bwtT t=strF t.size (fun j=>lastB t (f j))/\bwtA t=atK f t.size/\bwtC t=0:=by
 unfold bwtT bwtA bwtC
 rw[if_pos ht,if_pos ht,if_neg (by omega),if_neg (by omega)]
 exact⟨strF_congr _ _ _ fun j hj=>by rw[h j hj],atK_congr h _ (Nat.le_refl _),rfl⟩
theorem bwt_no {t:ByteArray} (ht:48<t.size):bwtT t=⟨#[]⟩/\bwtA t=0:=by
 unfold bwtT bwtA
 rw[if_neg (by omega),if_neg (by omega)]
 exact⟨rfl,rfl⟩
def fillL (t:ByteArray) (f:Nat->Nat) (k:Nat):Nat->Nat:=fun j=>if j<k then lastB t (f j) else 0
theorem fillL_lt (t:ByteArray) (f:Nat->Nat) (k j:Nat):fillL t f k j<256:=by
 unfold fillL
 split
 ·exact bt_lt _ _
 ·omega
theorem fillL_next (t:ByteArray) (f:Nat->Nat) (k:Nat) (j:Nat):Sh.upd (fun j=>((fillL t f k j:Nat):Int)) k ((lastB t (f k):Nat):Int) j=((fillL t f (k+1) j:Nat):Int):=by
 unfold Sh.upd fillL
 by_cases e:j=k
 ·subst e
  rw[if_pos rfl,if_pos (by omega)]
 ·rw[if_neg e]
  by_cases h:j<k
  ·have h':j<k+1:=by omega
   simp only[h,h',if_true]
  ·have h':¬j<k+1:=by omega
   simp only[h,h',if_false]
theorem fillL_all (t:ByteArray) (f:Nat->Nat) (n:Nat):strF n (fillL t f n)=strF n (fun j=>lastB t (f j)):=strF_congr _ _ _ fun j hj=>by
 unfold fillL
 rw[if_pos hj]
end Go.Proofs.YtkgjfdanjmnmbaaGreatDoor.So


/- Plain mathematics of the row of all bytes: a byte is brought to its front, and looked for. -/
namespace Go.Proofs.YtkgjfdanjmnmbaaGreatDoor.Fr
open Go.RowKit
open Sh (upd)
open Ze (numsR hideZ)
def front (f:Nat->Int) (k:Nat):Nat->Int:=fun j=>if j=0 then f k else if j<=k then f (j-1) else f j
def row0:Nat->Int:=fun j=>(j:Int)
def look (f:Nat->Int) (c:Int):Nat:=(List.range 256).findIdx fun k=>f k==c
def Full (f:Nat->Int):Prop:=(∀ c:Nat,c<256->∃ k,k<256/\f k=c)/\∀ k,k<256->0<=f k/\f k<256
theorem full0:Full row0:=⟨fun c h=>⟨c,h,rfl⟩,fun k h=>by unfold row0;omega⟩
theorem front_zero (f:Nat->Int) (k:Nat):front f k 0=f k:=if_pos rfl
theorem front_low (f:Nat->Int) (k j:Nat) (h0:j≠0) (h:j<=k):front f k j=f (j-1):=by
 unfold front
 rw[if_neg h0,if_pos h]
theorem front_high (f:Nat->Int) (k j:Nat) (h:k<j):front f k j=f j:=by
 unfold front
 rw[if_neg (by omega),if_neg (by omega)]
theorem Full.front {f:Nat->Int} (h:Full f) (k:Nat) (hk:k<256):Full (front f k):=by
 refine⟨fun c hc=>?_,fun j hj=>?_⟩
 ·obtain⟨i,hi,e⟩:=h.1 c hc
  rcases Nat.lt_trichotomy i k with hl|hl|hl
  ·exact⟨i+1,by omega,by rw[front_low f k (i+1) (by omega) (by omega)];exact e⟩
  ·exact⟨0,by omega,by rw[front_zero,<-hl];exact e⟩
  ·exact⟨i,hi,by rw[front_high f k i hl];exact e⟩
 ·by_cases h0:j=0
  ·subst h0;rw[front_zero];exact h.2 k hk
  ·by_cases h1:j<=k
   ·rw[front_low f k j h0 h1];exact h.2 (j-1) (by omega)
   ·rw[front_high f k j (by omega)];exact h.2 j hj
theorem find_get (N:Nat) (p:Nat->Bool) (h:(List.range N).findIdx p<(List.range N).length):p ((List.range N).findIdx p)=true:=by
 have h1:=List.findIdx_getElem (xs:=List.range N) (p:=p) (w:=h)
 have h2:(List.range N)[(List.range N).findIdx p]=(List.range N).findIdx p:=List.getElem_range h
 rw[h2]at h1
 exact h1
theorem look_some {f:Nat->Int} (hf:Full f) {c:Nat} (hc:c<256):look f c<256/\f (look f c)=c/\∀ i,i<look f c->f i≠c:=by
 obtain⟨k,hk,e⟩:=hf.1 c hc
 have hlt:look f c<(List.range 256).length:=by
  unfold look
  rw[List.findIdx_lt_length]
  exact⟨k,by simpa using hk,by simpa using e⟩
 have h1:look f c<256:=by simpa using hlt
 refine⟨h1,?_,fun i hi=>?_⟩
 ·exact beq_iff_eq.1 (find_get 256 (fun k=>f k==(c:Int)) hlt)
 ·have h2:i<(List.range 256).findIdx fun k=>f k==(c:Int):=hi
  have:=List.not_of_lt_findIdx h2
  simpa using this
def fstep (s:List Int × (Nat->Int)) (c:UInt8):List Int × (Nat->Int):=(s.1++[(look s.2 c.toNat:Int)],front s.2 (look s.2 c.toNat))
def fst' (l:List UInt8):List Int × (Nat->Int):=l.foldl fstep ([],row0)
theorem takeB {α:Type} {l:List α} {k:Nat} (h:k<l.length):l.take (k+1)=l.take k++[l[k]]:=List.take_succ_eq_append_getElem h
theorem fst_more {l:List UInt8} {k:Nat} (h:k<l.length):fst' (l.take (k+1))=((fst' (l.take k)).1++[(look (fst' (l.take k)).2 l[k].toNat:Int)],front (fst' (l.take k)).2 (look (fst' (l.take k)).2 l[k].toNat)):=by
 unfold fst'
 rw[takeB h,List.foldl_append]
 rfl
theorem fst_full (l:List UInt8):∀ k,k<=l.length->Full (fst' (l.take k)).2/\(fst' (l.take k)).1.length=k:=by
 intro k
 induction k with
 |zero=>intro _;exact⟨full0,rfl⟩
 |succ k ih =>
  intro hk
  obtain⟨h1,h2⟩:=ih (by omega)
  rw[fst_more hk]
  refine⟨h1.front _ (look_some h1 (c:=l[k].toNat) (UInt8.toNat_lt _)).1,?_⟩
  simp[h2]
def frontR (l:List UInt8):List Int:=if l.length<=400 then (fst' l).1 else []
theorem frontR_yes {l:List UInt8} (h:l.length<=400):frontR l=(fst' l).1:=if_pos h
theorem frontR_no {l:List UInt8} (h:400<l.length):frontR l=[]:=if_neg (by omega)
theorem frontR_len (l:List UInt8):(frontR l).length<=400:=by
 by_cases h:l.length<=400
 ·rw[frontR_yes h]
  have:=(fst_full l l.length (Nat.le_refl _)).2
  rw[List.take_length]at this
  omega
 ·rw[frontR_no (by omega)]
  exact Nat.zero_le _
def kstep (s:List UInt8 × (Nat->Int)) (n:Int):List UInt8 × (Nat->Int):=(s.1++[UInt8.ofNat (s.2 n.toNat).toNat],front s.2 n.toNat)
def kst (l:List Int):List UInt8 × (Nat->Int):=l.foldl kstep ([],row0)
theorem kst_more {l:List Int} {k:Nat} (h:k<l.length):kst (l.take (k+1))=((kst (l.take k)).1++[UInt8.ofNat ((kst (l.take k)).2 l[k].toNat).toNat],front (kst (l.take k)).2 l[k].toNat):=by
 unfold kst
 rw[takeB h,List.foldl_append]
 rfl
theorem kst_full (l:List Int) (hl:∀ x∈l,0<=x/\x<=255):∀ k,k<=l.length->Full (kst (l.take k)).2/\(kst (l.take k)).1.length=k:=by
 intro k
 induction k with
 |zero=>intro _;exact⟨full0,rfl⟩
 |succ k ih =>
  intro hk
  obtain⟨h1,h2⟩:=ih (by omega)
  have:=hl _ (List.getElem_mem (l:=l) (n:=k) hk)
  rw[kst_more hk]
  refine⟨h1.front _ (by omega),?_⟩
  simp[h2]
def fbackR (l:List Int):List UInt8:=if numsR l 255=true then (kst l).1 else []
theorem fbackR_yes {l:List Int} (h:numsR l 255=true):fbackR l=(kst l).1:=if_pos h
theorem fbackR_no {l:List Int} (h:numsR l 255=false):fbackR l=[]:=if_neg (by rw[h];decide)
theorem kst_fst (l:List UInt8):∀ k,k<=l.length->kst (fst' (l.take k)).1=(l.take k,(fst' (l.take k)).2):=by
 intro k
 induction k with
 |zero=>intro _;rfl
 |succ k ih =>
  intro hk
  have hf:=(fst_full l k (by omega)).1
  obtain⟨h1,h2,_⟩:=look_some hf (c:=l[k].toNat) (UInt8.toNat_lt _)
  rw[fst_more hk]
  simp only
  rw[kst,List.foldl_append]
  have e:=ih (by omega)
  unfold kst at e
  rw[e]
  simp only[List.foldl_cons,List.foldl_nil,kstep]
  rw[takeB hk]
  congr 1
  ·congr 1
   rw[Int.toNat_natCast,h2]
   simp
theorem front_back (l:List UInt8) (h:l.length<=400):fbackR (frontR l)=l:=by
 have h0:=fst_full l l.length (Nat.le_refl _)
 have hk:=kst_fst l l.length (Nat.le_refl _)
 rw[List.take_length]at h0 hk
 rw[frontR_yes h,fbackR_yes,hk]
 have hall:∀ k,k<=l.length->∀ x∈(fst' (l.take k)).1,0<=x/\x<=255:=by
  intro k
  induction k with
  |zero=>intro _ x hx;cases hx
  |succ k ih =>
   intro hk x hx
   have hf:=(fst_full l k (by omega)).1
   obtain⟨h1,_,_⟩:=look_some hf (c:=l[k].toNat) (UInt8.toNat_lt _)
   rw[fst_more hk]at hx
   rcases List.mem_append.1 hx with hx|hx
   ·exact ih (by omega) x hx
   ·rw[List.mem_singleton.1 hx]
    omega
 have:=hall l.length (Nat.le_refl _)
 rw[List.take_length]at this
 unfold numsR
 rw[decide_eq_true (by omega),Ze.upTo_of this]
 rfl
end Go.Proofs.YtkgjfdanjmnmbaaGreatDoor.Fr


/- Plain mathematics: zeros side by side, there and back. -/
namespace Go.Proofs.YtkgjfdanjmnmbaaGreatDoor.Ze
open Go.RowKit
theorem zrun_back (r:Nat):∀ (s:List Int) (v:Nat),((zrun r).foldl bstep (s,v)).1=s++List.replicate (v*r) 0:=by
 induction r using Nat.strongRecOn with
 |ind r ih =>
  intro s v
  by_cases h0:r=0
  ·subst h0
   rw[zrun_zero]
   simp
  ·by_cases h1:r%2=1
   ·rw[zrun_odd h1,List.foldl_cons,bstep,if_neg (by omega),ih ((r-1)/2) (by omega),List.append_assoc,List.replicate_append_replicate]
    congr 2
    obtain⟨q,rfl⟩:∃ q,r=2*q+1:=⟨(r-1)/2,by omega⟩
    rw[show (2*q+1-1)/2=q by omega,Nat.mul_add,Nat.mul_assoc]
    simp
    omega
   ·rw[zrun_even (by omega) h1,List.foldl_cons,bstep,if_neg (by omega),ih ((r-2)/2) (by omega),List.append_assoc,List.replicate_append_replicate]
    congr 2
    obtain⟨q,rfl⟩:∃ q,r=2*q+2:=⟨(r-2)/2,by omega⟩
    rw[show (2*q+2-2)/2=q by omega,Nat.mul_add,Nat.mul_assoc]
    simp
    omega
theorem zst_back (l:List Int) (h:∀ x∈l,0<=x/\x<=255):∀ k,k<=l.length->(bst (zst (l.take k)).1).2=1/\(bst (zst (l.take k)).1).1++List.replicate (zst (l.take k)).2 0=l.take k:=by
 intro k
 induction k with
 |zero=>intro _;simp[zst,bst]
 |succ k ih =>
  intro hk
  obtain⟨h1,h2⟩:=ih (by omega)
  have hx:=h _ (List.getElem_mem (show k<l.length by omega))
  by_cases h0:l[k]=0
  ·rw[zst_zero hk h0]
   refine⟨h1,?_⟩
   show (bst (zst (l.take k)).1).1++List.replicate ((zst (l.take k)).2+1) 0=_
   rw[Bi.take_more hk,h0,List.replicate_succ',<-List.append_assoc,h2]
  ·rw[zst_other hk h0]
   have e:bst ((zst (l.take k)).1++zrun (zst (l.take k)).2++[l[k]+1])=(l.take k++[l[k]],1):=by
    have hb:bst (zst (l.take k)).1=((bst (zst (l.take k)).1).1,1):=by rw[<-h1]
    have hb2:(zst (l.take k)).1.foldl bstep ([],1)=((bst (zst (l.take k)).1).1,1):=hb
    unfold bst
    rw[List.foldl_append,List.foldl_append,hb2,List.foldl_cons,List.foldl_nil,bstep,if_pos (by omega),zrun_back,Nat.one_mul,h2]
    simp
   rw[e]
   refine⟨rfl,?_⟩
   rw[Bi.take_more hk]
   simp
theorem zeros_back {l:List Int} (h:numsR l 255=true):backR (zerosR l)=l:=by
 obtain⟨hl,hu⟩:=numsR_yes h
 have hx:=upTo_yes hu
 obtain⟨h1,h2⟩:=zst_back l hx l.length (Nat.le_refl _)
 rw[List.take_length]at h1 h2
 have hb:(bst (zerosR l)).1=l:=by
  rw[zerosR_yes h]
  have hb2:(zst l).1.foldl bstep ([],1)=((bst (zst l).1).1,1):=by
   show bst (zst l).1=_
   rw[<-h1]
  unfold bst
  rw[List.foldl_append,hb2,zrun_back,Nat.one_mul]
  exact h2
 have hm:∀ k,k<=l.length->∀ x∈(zst (l.take k)).1,0<=x/\x<=256:=by
  intro k
  induction k with
  |zero=>intro _ x hx;simp[zst]at hx
  |succ k ih =>
   intro hk x hxm
   have hy:=hx _ (List.getElem_mem (show k<l.length by omega))
   by_cases h0:l[k]=0
   ·rw[zst_zero hk h0]at hxm
    exact ih (by omega) x hxm
   ·rw[zst_other hk h0]at hxm
    rcases List.mem_append.1 hxm with hxm|hxm
    ·rcases List.mem_append.1 hxm with hxm|hxm
     ·exact ih (by omega) x hxm
     ·rcases zrun_mem _ x hxm with e|e<;>omega
    ·rw[List.mem_singleton]at hxm
     omega
 have hn:numsR (zerosR l) 256=true:=by
  rw[numsR_of (Nat.le_trans (zerosR_len l) hl)]
  refine upTo_of fun x hxm=>?_
  rw[zerosR_yes h]at hxm
  rcases List.mem_append.1 hxm with hxm|hxm
  ·have:=hm l.length (Nat.le_refl _)
   rw[List.take_length]at this
   exact this x hxm
  ·rcases zrun_mem _ x hxm with e|e<;>omega
 rw[backR_yes hn (by rw[hb];exact hl),hb]
end Go.Proofs.YtkgjfdanjmnmbaaGreatDoor.Ze


/- Plain mathematics of the CRC: one bit's step of the register, one byte's, a text's; and how the model's operations on 32 bits say the same. -/
namespace Go.Proofs.YtkgjfdanjmnmbaaGreatDoor.Cr
def step (x:Nat):Nat:=if x%2=1 then (x/2) ^^^ 3988292384 else x/2
def stepN:Nat->Nat->Nat
 |0,x=>x
 |k+1,x=>step (stepN k x)
def crc8 (r c:Nat):Nat:=stepN 8 (r ^^^ c)
def crcL (r:Nat) (l:List UInt8):Nat:=l.foldl (fun r b=>crc8 r b.toNat) r
def fin (r:Nat):Nat:=r ^^^ 4294967295
theorem xor_lt {a b:Nat} (ha:a<4294967296) (hb:b<4294967296):a ^^^ b<4294967296 :=
 Nat.xor_lt_two_pow (n:=32) ha hb
theorem step_lt {x:Nat} (h:x<4294967296):step x<4294967296:=by
 unfold step
 split
 ·exact xor_lt (by omega) (by decide)
 ·omega
theorem stepN_lt {x:Nat} (h:x<4294967296) (k:Nat):stepN k x<4294967296:=by
 induction k with
 |zero=>exact h
 |succ k ih=>exact step_lt ih
theorem crc8_lt {r c:Nat} (h:r<4294967296) (hc:c<256):crc8 r c<4294967296 :=
 stepN_lt (xor_lt h (by omega)) 8
theorem crcL_lt (l:List UInt8):∀ r,r<4294967296->crcL r l<4294967296:=by
 induction l with
 |nil=>intro r h;exact h
 |cons b l ih=>intro r h;exact ih _ (crc8_lt h b.toNat_lt)
theorem crcL_snoc (r:Nat) (l:List UInt8) (b:UInt8):crcL r (l++[b])=crc8 (crcL r l) b.toNat:=by
 simp[crcL,List.foldl_append]
theorem take_snoc (s:ByteArray) (k:Nat) (h:k<s.size):s.data.toList.take (k+1)=s.data.toList.take k++[s[k]]:=by
 rw[List.take_succ_eq_append_getElem (by simpa using h)];rfl
theorem crcL_take (r:Nat) (s:ByteArray) (k:Nat) (h:k<s.size):crcL r (s.data.toList.take (k+1))=crc8 (crcL r (s.data.toList.take k)) (s[k]).toNat:=by
 rw[take_snoc s k h,crcL_snoc]
theorem fin_lt {r:Nat} (h:r<4294967296):fin r<4294967296:=xor_lt h (by decide)
def implS (x c k:Nat):Nat:=if (x ^^^ c/2 ^ k)%2=1 then (x/2) ^^^ 3988292384 else x/2
theorem inv_step (x c k:Nat):implS x c k ^^^ (c/2 ^ (k+1))=step (x ^^^ c/2 ^ k):=by
 have e:c/2 ^ (k+1)=(c/2 ^ k)/2:=by rw[Nat.pow_succ,Nat.div_div_eq_div_mul]
 unfold implS step
 rw[e,Nat.xor_div_two]
 split
 ·rw[Nat.xor_assoc,Nat.xor_assoc,Nat.xor_comm 3988292384]
 ·rfl
theorem implS_lt {x:Nat} (c k:Nat) (h:x<4294967296):implS x c k<4294967296:=by
 unfold implS
 split
 ·exact xor_lt (by omega) (by decide)
 ·omega
/-! the walk's own spellings -/
theorem nat_pow_cast (c k:Nat):((c:Int)/2 ^ k)=((c/2 ^ k:Nat):Int):=by
 rw[Int.natCast_ediv,Int.natCast_pow];rfl
theorem turned_eq (x c k:Nat) (hx:x<4294967296) (hc:c<256) :
  bits BinOp.and IntKind.u32 (bits BinOp.xor IntKind.u32 (x:Int) ((c:Int)/2 ^ k%4294967296)) 1=(((x ^^^ c/2 ^ k)%2:Nat):Int):=by
 have h1:c/2 ^ k<4294967296:=Nat.lt_of_le_of_lt (Nat.div_le_self _ _) (by omega)
 have e:((c:Int)/2 ^ k%4294967296)=((c/2 ^ k:Nat):Int):=by
  rw[nat_pow_cast]
  generalize c/2 ^ k=q at h1 ⊢
  omega
 rw[e,u32_xor_nat _ _ hx h1]
 have:=u32_and_nat (x ^^^ c/2 ^ k) 1 (xor_lt hx h1) (by decide)
 rw[nat_mask1]at this
 exact this
theorem half_xor (x:Nat) (hx:x<4294967296):bits BinOp.xor IntKind.u32 ((x:Int)/2) 3988292384=(((x/2) ^^^ 3988292384:Nat):Int):=by
 have e:((x:Int)/2)=((x/2:Nat):Int):=by omega
 rw[e]
 exact u32_xor_nat (x/2) 3988292384 (by omega) (by decide)
theorem low_eq (x:Nat) (hx:x<4294967296):bits BinOp.and IntKind.u32 (x:Int) 1=((x%2:Nat):Int):=by
 have:=u32_and_nat x 1 hx (by decide)
 rw[nat_mask1]at this
 exact this
theorem not_eq (x:Nat) (hx:x<4294967296):bits BinOp.xor IntKind.u32 (x:Int) 4294967295=((fin x:Nat):Int) :=
 u32_xor_nat x 4294967295 hx (by decide)
theorem not_eq' (x:Nat) (hx:x<4294967296):bits BinOp.xor IntKind.u32 IntKind.u32.max (x:Int)=((fin x:Nat):Int):=by
 rw[fin,Nat.xor_comm,show IntKind.u32.max=((4294967295:Nat):Int) from rfl]
 exact u32_xor_nat 4294967295 x (by decide) hx
end Go.Proofs.YtkgjfdanjmnmbaaGreatDoor.Cr


namespace Go.Proofs.YtkgjfdanjmnmbaaGreatDoor.Cr
open Go.RowKit
theorem ret_int {k:IntKind} {a b:Int} (h:a=b):Ending.returned (.int k a)=.returned (.int k b):=by rw[h]
theorem byte_any (r c:Nat) (w:World) (hr:r<4294967296) (hc:c<256) :
  Calls Tryz.prog 189 #[.int .u32 r,.int .u8 c] w fun e w'=>e=.returned (.int .u32 (crc8 r c:Nat))/\w'=w:=by
 go_enter Tryz.func189,Tryz.ntmps189
 go_wp2
 go_loop [0,5,6,7] (fun a _ _ i=>∃ k x:Nat,k<=8/\i=.int .i64 k/\x<4294967296/\a=.int .u32 x/\x ^^^ c/2 ^ k=stepN k (r ^^^ c)) (fun _ _ _ i=>8-(intOf i).toNat)
 case atStart=>exact⟨0,r,by omega,rfl,hr,rfl,by simp[stepN]⟩
 case round =>
  obtain⟨k,x,hk,rfl,hx,rfl,hinv⟩:=hrel
  have HI:Hid (x ^^^ c/2 ^ k=stepN k (r ^^^ c)):=hinv
  clear hinv
  by_cases hlt:k<8
  ·have ht:=turned_eq x c k hx hc
   by_cases hb:(x ^^^ c/2 ^ k)%2=1
   ·have hB:(bits BinOp.and IntKind.u32 (bits BinOp.xor IntKind.u32 (x:Int) ((c:Int)/2 ^ k%4294967296)) 1==1)=true:=by rw[ht,hb];rfl
    have HS:Hid (implS x c k=(x/2) ^^^ 3988292384):=by unfold Hid implS;rw[if_pos hb]
    clear ht hb
    go_wp2
    go_round
    case rel=>exact⟨k+1,implS x c k,by omega,by go_num,implS_lt c k hx,by rw[HS.out,half_xor x hx],by rw[inv_step,HI.out];rfl⟩
    case measure=>simp[intOf];omega
   ·have hB:(bits BinOp.and IntKind.u32 (bits BinOp.xor IntKind.u32 (x:Int) ((c:Int)/2 ^ k%4294967296)) 1==1)=false:=by rw[ht];simp;omega
    have HS:Hid (implS x c k=x/2):=by unfold Hid implS;rw[if_neg hb]
    clear ht hb
    go_wp2
    go_round
    case rel=>exact⟨k+1,implS x c k,by omega,by go_num,implS_lt c k hx,by rw[HS.out];go_num,by rw[inv_step,HI.out];rfl⟩
    case measure=>simp[intOf];omega
  ·have HX:Hid (x=crc8 r c):=by
    have h:=HI.out
    have e8:k=8:=by omega
    rw[e8,Nat.div_eq_of_lt (by omega),Nat.xor_zero]at h
    exact h
   go_wp2
   go_ret
   exact⟨ret_int (by rw[HX.out]),rfl⟩
theorem more_any (n:Nat) (s:ByteArray) (w:World) (hs:s.size<=8000) (hn:n<4294967296) :
  Calls Tryz.prog 160 #[.int .i64 n,.string s] w fun e w'=>e=.returned (.int .i64 (fin (crcL (fin n) s.data.toList):Nat))/\w'=w:=by
 have hn1:¬(4294967295:Int)<n:=by omega
 have HN:Hid (bits BinOp.xor IntKind.u32 IntKind.u32.max (n:Int)=((fin n:Nat):Int)):=not_eq' n hn
 have HF:Hid (fin n<4294967296):=fin_lt hn
 go_enter Tryz.func160,Tryz.ntmps160
 go_wp2
 go_loop [5,6,23] (fun a _ i=>∃ k x:Nat,k<=s.size/\i=.int .i64 k/\x<4294967296/\a=.int .u32 x/\x=crcL (fin n) (s.data.toList.take k)) (fun _ _ i=>s.size-(intOf i).toNat)
 case atStart=>exact⟨0,fin n,Nat.zero_le _,rfl,HF.out,by rw[HN.out],rfl⟩
 case round =>
  obtain⟨k,x,hk,rfl,hx,rfl,hinv⟩:=hrel
  have HI:Hid (x=crcL (fin n) (s.data.toList.take k)):=hinv
  clear hinv
  by_cases hlt:k<s.size
  ·have hb:s[k].toNat<256:=s[k].toNat_lt
   have HT:Hid (crc8 x s[k].toNat=crcL (fin n) (s.data.toList.take (k+1))):=by
    unfold Hid
    rw[crcL_take _ _ _ hlt,<-HI.out]
   have HL:Hid (crc8 x s[k].toNat<4294967296):=crc8_lt hx hb
   go_wp2_with (go_at_call 189;refine(byte_any _ _ _ hx hb).mono ?_;rintro e w' ⟨rfl,rfl⟩)
   go_round
   case rel=>exact⟨k+1,crc8 x s[k].toNat,by omega,by go_num,HL.out,rfl,HT.out⟩
   case measure=>simp[intOf];omega
  ·have HX:Hid (x=crcL (fin n) s.data.toList):=by
    have h:=HI.out
    rw[List.take_of_length_le (by simp;omega)]at h
    exact h
   have HE:Hid (bits BinOp.xor IntKind.u32 IntKind.u32.max (x:Int)=((fin x:Nat):Int)):=not_eq' x hx
   have HG:Hid (fin x<4294967296):=fin_lt hx
   go_wp2
   go_ret
   have e1:=HE.out
   have e2:=HX.out
   have e3:=HG.out
   rw[e2]at e3
   exact⟨ret_int (by rw[e1,e2];simp[wrap64];omega),rfl⟩
theorem crc_spec (n:Nat) (s:ByteArray) (w:World) (hs:s.size<=8000) (hn:n<4294967296) :
  Calls Tryz.prog 52 #[.int .i64 n,.string s] w fun e w'=>e=.returned (.int .i64 (fin (crcL (fin n) s.data.toList):Nat))/\w'=w:=by
 have HN:Hid (bits BinOp.xor IntKind.u32 (n:Int) 4294967295=((fin n:Nat):Int)):=not_eq n hn
 have HF:Hid (fin n<4294967296):=fin_lt hn
 go_enter Tryz.func52,Tryz.ntmps52
 go_wp2
 go_loop [5,6,7] (fun a i _=>∃ k x:Nat,k<=s.size/\i=.int .i64 k/\x<4294967296/\a=.int .u32 x/\x=crcL (fin n) (s.data.toList.take k)) (fun _ i _=>s.size-(intOf i).toNat)
 case atStart=>exact⟨0,fin n,Nat.zero_le _,rfl,HF.out,by rw[HN.out],rfl⟩
 case round =>
  obtain⟨k,x,hk,rfl,hx,rfl,hinv⟩:=hrel
  have HI:Hid (x=crcL (fin n) (s.data.toList.take k)):=hinv
  clear hinv
  by_cases hlt:k<s.size
  ·have hb:s[k].toNat<256:=s[k].toNat_lt
   have HT:Hid (crc8 x s[k].toNat=crcL (fin n) (s.data.toList.take (k+1))):=by
    unfold Hid
    rw[crcL_take _ _ _ hlt,<-HI.out]
   have HL:Hid (crc8 x s[k].toNat<4294967296):=crc8_lt hx hb
   have HXL:Hid (x ^^^ s[k].toNat<4294967296):=xor_lt hx (by omega)
   have HXE:Hid (bits BinOp.xor IntKind.u32 (x:Int) (s[k].toNat:Int)=((x ^^^ s[k].toNat:Nat):Int)):=u32_xor_nat _ _ hx (by omega)
   go_wp2
   go_loop [5,7] (fun a i=>∃ j y:Nat,j<=8/\i=.int .i64 j/\y<4294967296/\a=.int .u32 y/\y=stepN j (x ^^^ s[k].toNat)) (fun _ i=>8-(intOf i).toNat)
   case atStart=>exact⟨0,x ^^^ s[k].toNat,Nat.zero_le _,rfl,HXL.out,by rw[HXE.out],rfl⟩
   case round =>
    obtain⟨j,y,hj,rfl,hy,rfl,hinv⟩:=hrel
    have HJ:Hid (y=stepN j (x ^^^ s[k].toNat)):=hinv
    clear hinv
    by_cases hjl:j<8
    ·have ht:=low_eq y hy
     by_cases hb:y%2=1
     ·have hB:(bits BinOp.and IntKind.u32 (y:Int) 1==1)=true:=by rw[ht,hb];rfl
      have HS:Hid (step y=(y/2) ^^^ 3988292384):=by unfold Hid step;rw[if_pos hb]
      clear ht hb
      go_wp2
      go_round
      case rel=>exact⟨j+1,step y,by omega,by go_num,step_lt hy,by rw[HS.out,half_xor y hy],by rw[HJ.out];rfl⟩
      case measure=>simp[intOf];omega
     ·have hB:(bits BinOp.and IntKind.u32 (y:Int) 1==1)=false:=by rw[ht];simp;omega
      have HS:Hid (step y=y/2):=by unfold Hid step;rw[if_neg hb]
      clear ht hb
      go_wp2
      go_round
      case rel=>exact⟨j+1,step y,by omega,by go_num,step_lt hy,by rw[HS.out];go_num,by rw[HJ.out];rfl⟩
      case measure=>simp[intOf];omega
    ·have HY:Hid (y=crcL (fin n) (s.data.toList.take (k+1))):=by
      have h:=HJ.out
      have e8:j=8:=by omega
      rw[e8]at h
      exact h.trans HT.out
     go_wp2
     go_round
     case rel=>exact⟨k+1,y,by omega,by go_num,hy,rfl,HY.out⟩
     case measure=>simp[intOf];omega
  ·have HX:Hid (x=crcL (fin n) s.data.toList):=by
    have h:=HI.out
    rw[List.take_of_length_le (by simp;omega)]at h
    exact h
   have HE:Hid (bits BinOp.xor IntKind.u32 (x:Int) 4294967295=((fin x:Nat):Int)):=not_eq x hx
   have HG:Hid (fin x<4294967296):=fin_lt hx
   go_wp2
   go_ret
   have e1:=HE.out
   have e2:=HX.out
   have e3:=HG.out
   rw[e2]at e3
   exact⟨ret_int (by rw[e1,e2];simp[wrap64];omega),rfl⟩
def moreV (c:Int) (s:ByteArray):Int:=if s.size<=8000/\0<=c/\c<=4294967295 then (fin (crcL (fin c.toNat) s.data.toList):Nat) else 0
theorem moreV_yes (n:Nat) (s:ByteArray) (hs:s.size<=8000) (hn:n<4294967296):moreV n s=(fin (crcL (fin n) s.data.toList):Nat):=by
 unfold moreV
 rw[if_pos ⟨hs,by omega,by omega⟩,Int.toNat_natCast]
theorem moreV_no (c:Int) (s:ByteArray) (h:¬(s.size<=8000/\0<=c/\c<=4294967295)):moreV c s=0:=by
 unfold moreV
 rw[if_neg h]
theorem more_impl (c:Int) (s:ByteArray) (w:World) (hs:s.size<=maxLen) :
  Calls Tryz.prog 160 #[.int .i64 c,.string s] w fun e w'=>e=.returned (.int .i64 (moreV c s))/\w'=w:=by
 unfold maxLen at hs
 by_cases h1:8000<s.size
 ·go_enter Tryz.func160,Tryz.ntmps160
  go_wp2
  go_ret
  exact⟨ret_int (moreV_no c s (by omega)).symm,rfl⟩
 ·by_cases h2:c<0
  ·go_enter Tryz.func160,Tryz.ntmps160
   go_wp2
   go_ret
   exact⟨ret_int (moreV_no c s (by omega)).symm,rfl⟩
  ·by_cases h3:4294967295<c
   ·go_enter Tryz.func160,Tryz.ntmps160
    go_wp2
    go_ret
    exact⟨ret_int (moreV_no c s (by omega)).symm,rfl⟩
   ·obtain⟨n,rfl⟩:=Int.eq_ofNat_of_zero_le (show 0<=c from by omega)
    rw[moreV_yes n s (by omega) (by omega)]
    exact more_any n s w (by omega) (by omega)
theorem crc_impl0 (s:ByteArray) (w:World) (hs:s.size<=maxLen) :
  Calls Tryz.prog 123 #[.string s] w fun e w'=>e=.returned (.int .i64 (moreV 0 s))/\w'=w:=by
 go_enter Tryz.func123,Tryz.ntmps123
 go_wp2_with fail
 refine(more_impl 0 s _ hs).mono ?_
 rintro e w' ⟨rfl,rfl⟩
 go_wp2
 go_ret
 exact⟨rfl,rfl⟩
end Go.Proofs.YtkgjfdanjmnmbaaGreatDoor.Cr

