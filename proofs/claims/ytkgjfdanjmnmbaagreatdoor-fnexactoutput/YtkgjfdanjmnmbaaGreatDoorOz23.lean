/- Texts put together: IntRow, IntLaws, IntMark, IntOwn, PkCat, JoinWalks, TextWalks, LsBytes, LsBytes2, GetPlain. -/
import Derived.Test.YtkgjfdanjmnmbaaGreatDoorOz6
import Derived.Test.YtkgjfdanjmnmbaaGreatDoorOz1
import Derived.BigRegion
import Derived.BigQuiet
import Derived.Deep.QuietTactic
import Derived.Test.YtkgjfdanjmnmbaaGreatDoorOz12
import Derived.Laws.AppendOwn
import Derived.Test.YtkgjfdanjmnmbaaGreatDoorOz21
import Derived.Test.YtkgjfdanjmnmbaaGreatDoorOz22
import Derived.Test.YtkgjfdanjmnmbaaGreatDoorOz13
import Derived.Test.YtkgjfdanjmnmbaaGreatDoorOz18
import Derived.Lib.QuietBelow
import Derived.Deep.RegionHeld3
import Derived.Deep.CutRange
import Derived.Laws.BitsAllLaws
set_option maxRecDepth 100000
set_option maxHeartbeats 8000000
/- Rows of numbers in memory: as a slice that came in sees them, and as a block of the call's own. -/
namespace Go.Proofs.YtkgjfdanjmnmbaaGreatDoor.In
open Go.RowKit
def Ints (w:World) (B:Nat) (a:Option Addr) (l:List Int):Prop :=
 l=[]∨∃ b off,a=some ⟨b,off,none⟩/\b<B/\∀ j (h:j<l.length),w.cell? ⟨b,off+j,none⟩=some (.int .i64 l[j])
theorem Ints.below {w w':World} {B:Nat} {a:Option Addr} {l:List Int} (h:Ints w B a l) (hb:Below B w w'):Ints w' B a l:=by
 rcases h with h0|⟨b,off,rfl,hlt,hc⟩
 ·exact .inl h0
 ·exact .inr ⟨b,off,rfl,hlt,fun j hj=>(hb.cell (p:=⟨b,off+j,none⟩) hlt).trans (hc j hj)⟩
theorem Ints.mono {w:World} {B C:Nat} {a:Option Addr} {l:List Int} (h:Ints w B a l) (hBC:B<=C):Ints w C a l:=by
 rcases h with h0|⟨b,off,rfl,hlt,hc⟩
 ·exact .inl h0
 ·exact .inr ⟨b,off,rfl,Nat.lt_of_lt_of_le hlt hBC,hc⟩
theorem Ints.after {w w':World} {B C:Nat} {a:Option Addr} {l:List Int} (h:Ints w B a l) (hb:Below C w w') (hBC:B<=C):Ints w' B a l:=by
 rcases h with h0|⟨b,off,rfl,hlt,hc⟩
 ·exact .inl h0
 ·exact .inr ⟨b,off,rfl,hlt,fun j hj=>(hb.cell (p:=⟨b,off+j,none⟩) (Nat.lt_of_lt_of_le hlt hBC)).trans (hc j hj)⟩
theorem Ints.some {w:World} {B:Nat} {a:Option Addr} {l:List Int} (h:Ints w B a l) (hl:0<l.length) :
  ∃ b off,a=.some ⟨b,off,none⟩/\b<B/\∀ j (h:j<l.length),w.cell? ⟨b,off+j,none⟩=.some (.int .i64 l[j]):=by
 rcases h with h0|h
 ·subst h0;simp at hl
 ·exact h
theorem Ints.take {w:World} {B b off k:Nat} {l:List Int} (hB:b<B) (hc:∀ j (h:j<l.length),w.cell? ⟨b,off+j,none⟩=.some (.int .i64 l[j])):Ints w B (.some ⟨b,off,none⟩) (l.take k) :=
 .inr ⟨b,off,rfl,hB,fun j hj=>by
  have h1:j<l.length:=Nat.lt_of_lt_of_le hj (List.length_take_le' k l)
  rw[hc j h1,List.getElem_take]⟩
theorem Ints.drop {w:World} {B b off k:Nat} {l:List Int} (hB:b<B) (hc:∀ j (h:j<l.length),w.cell? ⟨b,off+j,none⟩=.some (.int .i64 l[j])):Ints w B (.some ⟨b,off+k,none⟩) (l.drop k) :=
 .inr ⟨b,off+k,rfl,hB,fun j hj=>by
  rw[List.length_drop]at hj
  rw[List.getElem_drop,<-hc (k+j) (by omega)]
  congr 2
  omega⟩
def irow (l:List Int):Array Value:=(l.map (Value.int .i64)).toArray
def IsI (w:World) (g:Nat) (t:TypeId) (l:List Int):Prop:=w.heap[g]? = some (.cells (irow l) t (0,0))
theorem irow_size (l:List Int):(irow l).size=l.length:=by simp[irow]
theorem irow_get (l:List Int) (j:Nat) (h:j<l.length):(irow l)[j]? = some (.int .i64 l[j]):=by simp[irow,h]
theorem irow_set (l:List Int) (i:Nat) (s:Int):(irow l).setIfInBounds i (.int .i64 s)=irow (l.set i s):=by
 simp[irow,List.map_set]
theorem IsI.cell {w:World} {g t:Nat} {l:List Int} (h:IsI w g t l) {j:Nat} (hj:j<l.length):w.cell? ⟨g,j,none⟩=some (.int .i64 l[j]):=by
 rw[cell_of_row w g j _ t (0,0) h,irow_get l j hj]
theorem IsI.frozen {w:World} {g t:Nat} {l:List Int} (h:IsI w g t l) (j:Nat):w.frozen? ⟨g,j,none⟩=false:=frozen_of_row w g j _ t h
theorem IsI.set {w:World} {g t:Nat} {l:List Int} (h:IsI w g t l) (i:Nat) (s:Int):IsI (w.setCell ⟨g,i,none⟩ (.int .i64 s)) g t (l.set i s):=by
 unfold IsI
 rw[heap_setCell_same w g i _ t _ h,irow_set]
theorem IsI.set_other {w:World} {g t:Nat} {l:List Int} (h:IsI w g t l) (a:Addr) (v:Value) (ha:g≠a.block):IsI (w.setCell a v) g t l:=by
 unfold IsI
 rw[heap_setCell_other w a g v ha]
 exact h
theorem IsI.lt {w:World} {g t:Nat} {l:List Int} (h:IsI w g t l):g<w.heap.size:=(Array.getElem?_eq_some_iff.1 h).1
theorem IsI.below {w w':World} {g t B:Nat} {l:List Int} (h:IsI w g t l) (b:Below B w w') (hg:g<B):IsI w' g t l:=by
 unfold IsI
 rw[b.block g hg]
 exact h
theorem IsI.ints {w:World} {g t B:Nat} {l:List Int} (h:IsI w g t l) (hB:g<B):Ints w B (some ⟨g,0,none⟩) l :=
 .inr ⟨g,0,rfl,hB,fun j hj=>by rw[Nat.zero_add];exact h.cell hj⟩
def mid (l:List Int) (k:Nat):List Int:=l.take k++List.replicate (l.length-k) 0
theorem made_ints {w:World} {base e g n:Nat} (h:w.ownsRow base e 1 (.slice (some ⟨g,0,none⟩) n n) n (madeCells (Value.int .i64 0).cells (n*1)).toList):IsI w g e (List.replicate n 0):=by
 obtain⟨_,h⟩:=h
 rcases h with⟨h,_⟩|⟨g',cap,cur,hv,_,hb,_,_,hsz,htk⟩
 ·simp at h
 ·simp at hv
  obtain⟨rfl,rfl⟩:=hv
  have hm:(madeCells (Value.int .i64 0).cells (n*1)).toList=(irow (List.replicate n 0)).toList:=by
   rw[Nat.mul_one]
   have:=toList_madeCells_one (.int .i64 0) n
   simp only[irow,List.map_replicate]
   exact this
  rw[hm,List.take_of_length_le (by simp[hsz])]at htk
  have:cur=irow (List.replicate n 0):=by simpa using htk
  rw[this]at hb
  exact hb
theorem Tryz.infoI2:(Tryz.prog.info? 2).map (fun i=>(i.zero,i.size,i.bytes))=some (some (.int .i64 0),1,8):=by kernel_rfl
end Go.Proofs.YtkgjfdanjmnmbaaGreatDoor.In


/- The laws' own helpers on rows of numbers: the budget of their sizes, and whether two are alike. -/
namespace Go.Proofs.YtkgjfdanjmnmbaaGreatDoor.In
open Go.RowKit
theorem ret_bool {a b:Bool} (h:a=b):Ending.returned (.bool a)=.returned (.bool b):=by rw[h]
end Go.Proofs.YtkgjfdanjmnmbaaGreatDoor.In


/- The laws' marks in rows of numbers: written, and found again. -/
namespace Go.Proofs.YtkgjfdanjmnmbaaGreatDoor.In
open Go.RowKit
open St (Aft)
def IsO (w:World) (g t:Nat) (l:List Int):Prop:=∃ cur:Array Value,w.heap[g]? = some (.cells cur t (0,0))/\∀ j (h:j<l.length),cur[j]? = some (.int .i64 l[j])
theorem IsO.cell {w:World} {g t:Nat} {l:List Int} (h:IsO w g t l) {j:Nat} (hj:j<l.length):w.cell? ⟨g,j,none⟩=some (.int .i64 l[j]):=by
 obtain⟨cur,hb,hc⟩:=h
 rw[cell_of_row w g j _ t (0,0) hb,hc j hj]
theorem IsO.frozen {w:World} {g t:Nat} {l:List Int} (h:IsO w g t l) (j:Nat):w.frozen? ⟨g,j,none⟩=false:=by
 obtain⟨cur,hb,_⟩:=h
 exact frozen_of_row w g j _ t hb
theorem IsO.set {w:World} {g t:Nat} {l:List Int} (h:IsO w g t l) (i:Nat) (s:Int):IsO (w.setCell ⟨g,i,none⟩ (.int .i64 s)) g t (l.set i s):=by
 obtain⟨cur,hb,hc⟩:=h
 refine⟨_,heap_setCell_same w g i _ t _ hb,fun j hj=>?_⟩
 rw[List.length_set]at hj
 rw[Array.getElem?_setIfInBounds,List.getElem_set]
 have hlt:j<cur.size:=(Array.getElem?_eq_some_iff.1 (hc j hj)).1
 by_cases e:i=j
 ·subst e
  simp[hlt]
 ·simp[e,hc j hj]
theorem IsO.lt {w:World} {g t:Nat} {l:List Int} (h:IsO w g t l):g<w.heap.size:=by
 obtain⟨cur,hb,_⟩:=h
 exact(Array.getElem?_eq_some_iff.1 hb).1
theorem IsO.of_heap {w w':World} {g t:Nat} {l:List Int} (h:IsO w g t l) (e:w'.heap[g]? = w.heap[g]?):IsO w' g t l:=by
 obtain⟨cur,hb,hc⟩:=h
 exact⟨cur,by rw[e];exact hb,hc⟩
theorem IsO.below {w w':World} {g t B:Nat} {l:List Int} (h:IsO w g t l) (b:Below B w w') (hg:g<B):IsO w' g t l:=h.of_heap (b.block g hg)
theorem IsO.ints {w:World} {g t B:Nat} {l:List Int} (h:IsO w g t l) (hB:g<B):Ints w B (some ⟨g,0,none⟩) l :=
 .inr ⟨g,0,rfl,hB,fun j hj=>by rw[Nat.zero_add];exact h.cell hj⟩
theorem IsI.own {w:World} {g t:Nat} {l:List Int} (h:IsI w g t l):IsO w g t l:=⟨irow l,h,fun j hj=>irow_get l j hj⟩
def marks (k n:Nat):List Int:=(List.range n).map fun j=>((k+j:Nat):Int)
def mmid (l:List Int) (k i:Nat):List Int:=marks k i++l.drop i
end Go.Proofs.YtkgjfdanjmnmbaaGreatDoor.In


/- Rows of numbers that a call has made and owns: nil, or a block of its own whose head they are. -/
namespace Go.Proofs.YtkgjfdanjmnmbaaGreatDoor.In
open Go.RowKit
open St (Aft)
def OwnI (w:World) (base:Nat) (v:Value) (l:List Int):Prop:=w.ownsRow base 2 1 v l.length (l.map (Value.int .i64))
theorem OwnI.nil (w:World) (base:Nat):OwnI w base (.slice none 0 0) []:=World.ownsRow_nil w base _ _
theorem OwnI.split {w:World} {base:Nat} {v:Value} {l:List Int} (h:OwnI w base v l) :
  (v=.slice none 0 0/\l=[])∨∃ g cap,v=.slice (some ⟨g,0,none⟩) l.length cap/\base<=g/\l.length<=cap/\IsO w g 2 l:=by
 obtain⟨_,h⟩:=h
 rcases h with⟨h,h0⟩|⟨g,cap,cur,hv,hg,hb,hnc,_,hsz,htk⟩
 ·exact .inl ⟨h,List.eq_nil_of_length_eq_zero h0⟩
 ·refine .inr ⟨g,cap,hv,hg,hnc,cur,hb,fun j hj=>?_⟩
  rw[<-Array.getElem?_toList]
  have h1:cur.toList[j]? = (cur.toList.take (l.length*1))[j]?:=by rw[List.getElem?_take_of_lt (by omega)]
  rw[h1,htk]
  simp[hj]
theorem OwnI.below {w w':World} {base:Nat} {v:Value} {l:List Int} (h:OwnI w base v l) (b:Below w.heap.size w w'):OwnI w' base v l:=by
 obtain⟨hl,h⟩:=h
 refine⟨hl,?_⟩
 rcases h with h|⟨g,cap,cur,hv,hg,hb,rest⟩
 ·exact .inl h
 ·exact .inr ⟨g,cap,cur,hv,hg,by rw[b.block g (Array.getElem?_eq_some_iff.1 hb).1];exact hb,rest⟩
theorem OwnI.mono {w:World} {base base':Nat} {v:Value} {l:List Int} (h:OwnI w base v l) (hb:base'<=base):OwnI w base' v l:=by
 obtain⟨hl,h⟩:=h
 refine⟨hl,?_⟩
 rcases h with h|⟨g,cap,cur,hv,hg,rest⟩
 ·exact .inl h
 ·exact .inr ⟨g,cap,cur,hv,Nat.le_trans hb hg,rest⟩
theorem OwnI.ints {w:World} {base:Nat} {v:Value} {l:List Int} (h:OwnI w base v l):∃ a cap,v=.slice a l.length cap/\l.length<=cap/\Ints w w.heap.size a l:=by
 rcases h.split with⟨rfl,rfl⟩|⟨g,cap,rfl,_,hc,ho⟩
 ·exact⟨none,0,rfl,Nat.le_refl _,.inl rfl⟩
 ·exact⟨_,cap,rfl,hc,ho.ints ho.lt⟩
theorem one_newI (W:World) (s:Int) (t:TypeId):∀ (j:Nat) (u:Value),[(Value.int .i64) s][j]? = some u->(W.alloc (.cells #[.int .i64 s] t)).cell? ((⟨W.heap.size,0,none⟩:Addr).add j)=some u:=by
 intro j u hj
 match j,hj with
 |0,hj=>simp at hj;subst hj;simp[Addr.add]
theorem one_cellI (s:Int):∀ u∈[(Value.int .i64) s],u.oneCell'=true:=by
 intro u hu
 simp at hu
 subst hu
 rfl
theorem OwnI.snoc {w:World} {base:Nat} {v:Value} {l:List Int} {s:Int} (h:w.ownsRow base 2 1 v (l.length+1) (l.map (Value.int .i64)++[.int .i64 s])):OwnI w base v (l++[s]):=by
 unfold OwnI
 rw[List.length_append,List.map_append]
 exact h
theorem app_one {B base:Nat} {e:TypeId} {w0 w w1:World} {v:Value} {n size:Nat} {xs:List Value} {o:Obj} (hbel:Below B w0 w) (hB:B<=w.heap.size) (hBb:B<=base)
  (hown:w.ownsRow base e size v n xs) (hgrow:(w.alloc o).grownBy w1 v.ownBlock):Below B w0 w1:=by
 refine(hbel.alloc hB o).grown hgrow (by simp;omega) ?_
 intro k hk
 exact Nat.le_trans hBb (hown.lt k hk).1
end Go.Proofs.YtkgjfdanjmnmbaaGreatDoor.In


namespace Go.Proofs.YtkgjfdanjmnmbaaGreatDoor.Pk
open Go.RowKit
open St (Strs IsS made_strs)
open In (Ints IsI OwnI made_ints)
open Nu (putS)
theorem hideP {p:Prop} (h:p):Hid p:=h
def cat (l:List ByteArray):List UInt8:=l.flatMap fun s=>s.data.toList
theorem cat_next (l:List ByteArray) (k:Nat) (h:k<l.length):cat (l.take (k+1))=cat (l.take k)++l[k].data.toList:=by
 rw[List.take_add_one,List.getElem?_eq_getElem h]
 unfold cat
 rw[List.flatMap_append]
 simp
theorem cat_take_le (l:List ByteArray) (k:Nat):(cat (l.take k)).length<=(cat l).length:=by
  have:cat l=cat (l.take k)++cat (l.drop k):=by
   unfold cat
   rw[<-List.flatMap_append,List.take_append_drop]
  rw[this,List.length_append]
  omega
theorem join_any (l:List ByteArray) (a:Option Addr) (cap n:Nat) (w:World) (h:Strs w w.heap.size a l) (hn:l.length=n) (hn2:n<=1048576) (hc:(cat l).length<=1048576) :
  Calls Tryz.prog 33 #[.slice a n cap] w fun e w'=>e=.returned (.string ⟨(cat l).toArray⟩)/\Below w.heap.size w w':=by
 have HN:=hideP hn
 have HS:=hideP h
 have HC:=hideP (fun k=>Nat.le_trans (cat_take_le l k) hc)
 clear h hn hc
 go_enter Tryz.func33,Tryz.ntmps33
 go_wp2_with fail
 go_loopw [8,5] (fun i _ wr=>∃ k:Nat,i=.int .i64 k/\k<=n/\Lib.IsBuilder 89 5 w.heap.size w.heap.size (Lib.byteCells (cat (l.take k))) wr/\Below w.heap.size w wr/\w.heap.size<=wr.heap.size) (fun i _ _=>n-(intOf i).toNat)
 case atStart=>exact⟨0,rfl,Nat.zero_le _,Lib.fresh_isBuilder _ _ w,(Below.refl _ _).alloc (Nat.le_refl _) _,by simp⟩
 case round =>
  obtain⟨k,rfl,hk,hbu,hbel,hbz⟩:=hrel
  have HBU:=hideP hbu
  have GB:=hideP hbel
  clear hbu hbel
  by_cases hlt:k<n
  ·have hkl:k<l.length:=by rw[HN.out];exact hlt
   obtain⟨b,off,rfl,hb,hcl⟩:∃ b off,a=some ⟨b,off,none⟩/\b<w.heap.size/\∀ j (h:j<l.length),wr.cell? ⟨b,off+j,none⟩=some (.string l[j]):=by
    rcases HS.out.below GB.out with h0|h
    ·subst h0
     simp at hkl
    ·exact h
   have ci:=hcl k hkl
   have HNX:=hideP (cat_next l k hkl)
   have h1:=HC.out (k+1)
   rw[HNX.out,List.length_append]at h1
   generalize l[k]=s at ci HNX h1
   have hss:s.data.toList.length=s.size:=by simp
   have HLE:Hid ((Lib.byteCells (cat (l.take k))).length+s.size<=140737488355328):=by
    unfold Hid
    rw[Lib.byteCells_length]
    omega
   have HNC:Hid (Lib.byteCells (cat (l.take k))++Lib.strCells s=Lib.byteCells (cat (l.take (k+1)))):=by
    unfold Hid
    rw[HNX.out,Lib.byteCells_append,Lib.strCells_eq]
   have HWR:=hideP (Sb.write_any w.heap.size w.heap.size _ s wr HBU.out HLE.out hbz)
   clear hcl h1 hss hkl
   go_wp2_with fail
   refine HWR.out.mono ?_
   rintro e w2 ⟨rfl,hbt,hb2⟩
   rw[HNC.out]at hbt
   have HBT:=hideP hbt
   have B2:=hideP (GB.out.trans hb2)
   have z2:=hb2.size
   clear hbt hb2
   go_wp2_with fail
   go_roundw
   case rel=>exact⟨k+1,by go_num,by omega,Or.inr HBT.out,B2.out,by omega⟩
   case measure=>simp[intOf];omega
  ·obtain rfl:k=n:=by omega
   have HE:Hid (cat (l.take k)=cat l):=by
    unfold Hid
    rw[List.take_of_length_le (by rw[HN.out];exact Nat.le_refl _)]
   have HST:=hideP (Sb.string_any w.heap.size w.heap.size _ wr HBU.out hbz)
   rw[HE.out]at HST
   go_wp2_with fail
   refine HST.out.mono ?_
   rintro e w2 ⟨rfl,hb2⟩
   have B2:=hideP (GB.out.trans hb2)
   clear hb2
   go_wp2_with fail
   go_ret
   exact⟨rfl,B2.out⟩
def numsL (l:List Int):List UInt8:=l.flatMap fun x=>(putS x).data.toList
def putsN (l:List Int) (k:Nat):List ByteArray:=(l.take k).map putS++List.replicate (l.length-k) ⟨#[]⟩
theorem putsN_all (l:List Int):cat (putsN l l.length)=numsL l:=by
 unfold putsN cat numsL
 rw[List.take_length,Nat.sub_self,List.replicate_zero,List.append_nil,List.flatMap_map]
theorem putsN_length (l:List Int) (k:Nat) (h:k<=l.length):(putsN l k).length=l.length:=by
 unfold putsN
 rw[List.length_append,List.length_map,List.length_take,List.length_replicate]
 omega
theorem putsN_next (l:List Int) (k:Nat) (h:k<l.length):(putsN l k).set k (putS l[k])=putsN l (k+1):=by
 have hl:((l.take k).map putS).length=k:=by rw[List.length_map,List.length_take];omega
 unfold putsN
 rw[List.set_append,if_neg (by omega),hl,Nat.sub_self,show l.length-k=(l.length-(k+1))+1 by omega,List.replicate_succ,List.set_cons_zero,List.take_add_one,List.getElem?_eq_getElem h,List.map_append,List.append_assoc]
 rfl
theorem putsN_zero (l:List Int):putsN l 0=List.replicate l.length ⟨#[]⟩:=by
 unfold putsN
 simp
theorem putS_size (n:Int):(putS n).size<=10:=by
 show (Nu.numB (Nu.zz n)).toArray.size<=10
 rw[List.size_toArray]
 unfold Nu.numB
 rw[Nu.numL_length]
 have:=Nu.cnt_le 9 (Nu.zz n)
 omega
theorem numsL_le (l:List Int):(numsL l).length<=10*l.length:=by
 induction l with
 |nil=>exact Nat.le_refl _
 |cons x l ih =>
  have h1:=ih
  have h3:=putS_size x
  have h4:(putS x).data.toList.length=(putS x).size:=by simp
  unfold numsL at h1 ⊢
  rw[List.flatMap_cons,List.length_append,List.length_cons]
  omega
theorem nums_any (l:List Int) (a:Option Addr) (cap n:Nat) (w:World) (h:Ints w w.heap.size a l) (hn:l.length=n) (hn2:n<=100000) (hr:∀ x∈l,-9223372036854775808<=x/\x<=9223372036854775807) :
  Calls Tryz.prog 101 #[.slice a n cap] w fun e w'=>e=.returned (.string ⟨(numsL l).toArray⟩)/\Below w.heap.size w w':=by
 obtain⟨i0,hi0,hz0,hz1,hz2⟩:=info_parts St.Tryz.infoS9
 have HN:=hideP hn
 have HS:=hideP h
 have HR:=hideP hr
 have HLE:=hideP (numsL_le l)
 clear h hn hr
 go_enter Tryz.func101,Tryz.ntmps101
 go_wp2_with (at_make;refine wpList_make_full _ rfl (.tmp 7) (.tmp 7) 47 rfl w.heap.size 9 i0 (.string ⟨#[]⟩) 1 Tryz.underlying47 hi0 hz0 hz1 .i64 .i64 _ _ n rfl rfl (by simp) (by simp) (by rw[hz2];omega) (by unfold maxLen;omega) (Nat.le_refl _) ?_;intro w1 hown hgrow;have HI1:=hideP (made_strs hown);have HB1:=hideP ((Below.refl w.heap.size w).grown hgrow (Nat.le_refl _) (by simp));clear hown hgrow)
 have z1:=HI1.out.lt
 go_loopw [11,4,5] (fun i _ _ wr=>∃ k:Nat,i=.int .i64 k/\k<=n/\IsS wr w.heap.size 9 (putsN l k)/\Below w.heap.size w wr) (fun i _ _ _=>n-(intOf i).toNat)
 case atStart=>exact⟨0,rfl,Nat.zero_le _,by rw[putsN_zero,HN.out];exact HI1.out,HB1.out⟩
 case round =>
  obtain⟨k,rfl,hk,hsr,hbw⟩:=hrel
  have SR:=hideP hsr
  have BW:=hideP hbw
  have hzr:=hbw.size
  clear hsr hbw
  by_cases hlt:k<n
  ·have hkl:k<l.length:=by rw[HN.out];exact hlt
   obtain⟨b,off,rfl,hb,hcl⟩:=(HS.out.below BW.out).some (by omega)
   have ci:=hcl k hkl
   have HNX:=hideP (putsN_next l k hkl)
   have hx:=HR.out l[k] (List.getElem_mem hkl)
   have hpl:k<(putsN l k).length:=by rw[putsN_length l k (by omega)];exact hkl
   have HOLD:=hideP (fun (W:World) (hW:IsS W w.heap.size 9 (putsN l k))=>hW.cell hpl)
   generalize l[k]=x at ci HNX hx
   generalize (putsN l k)[k]=old at HOLD
   have hkn:(k:Int)<n:=by omega
   clear hcl hkl hpl
   go_wp2_with fail
   refine(Nu.put_impl x _ hx.1 hx.2).mono ?_
   rintro e w2 ⟨rfl,hb2⟩
   have S2:=hideP (SR.out.below hb2 SR.out.lt)
   have B2:=hideP (BW.out.trans (hb2.mono hzr))
   have c2:=HOLD.out w2 S2.out
   have f2:=S2.out.frozen k
   clear hb2
   go_wp2_with fail
   go_roundw
   case rel=>exact⟨k+1,by go_num,by omega,by rw[<-HNX.out];exact S2.out.set k _,B2.out.setCell (by simp) _⟩
   case measure=>simp[intOf];omega
  ·obtain rfl:k=n:=by omega
   have HJ:Hid (Calls Tryz.prog 33 #[.slice (some ⟨w.heap.size,0,none⟩) k k] wr fun e w'=>e=.returned (.string ⟨(numsL l).toArray⟩)/\Below wr.heap.size wr w'):=by
    have hlk:k=l.length:=HN.out.symm
    have:=join_any (putsN l k) (some ⟨w.heap.size,0,none⟩) k k wr (SR.out.strs SR.out.lt) (by rw[putsN_length l k (by omega)];exact HN.out) (by omega) (by rw[hlk,putsN_all];have:=HLE.out;omega)
    rw[hlk,putsN_all]at this
    rw[hlk]
    exact this
   go_wp2_with fail
   refine HJ.out.mono ?_
   rintro e w2 ⟨rfl,hb2⟩
   have B2:=hideP (BW.out.trans (hb2.mono hzr))
   clear hb2
   go_wp2_with fail
   go_ret
   exact⟨rfl,B2.out⟩
end Go.Proofs.YtkgjfdanjmnmbaaGreatDoor.Pk


namespace Go.Proofs.YtkgjfdanjmnmbaaGreatDoor.Nu
open Go.RowKit
theorem join_some (a b:ByteArray) (w:World) (h:a.size+b.size<=1099511627776) (hb:¬b=ByteArray.empty) :
  Calls Tryz.prog 85 #[.string a,.string b] w fun e w'=>e=.returned (.string (a++b))/\Below w.heap.size w w':=by
 obtain⟨i0,hi,hz0,hz1,hz2⟩:=info_parts Tryz.infoJ5
 go_enter Tryz.func85,Tryz.ntmps85
 go_wp2_with (at_make;refine wpList_make_full _ rfl (.tmp 10) (.tmp 10) 87 rfl w.heap.size 5 i0 (.int .u8 0) 1 Tryz.underlying87 hi hz0 hz1 .i64 .i64 _ _ (a.size+b.size) rfl rfl (by simp) (by simp) (by rw[hz2];omega) (by unfold maxLen;omega) (Nat.le_refl _) ?_;intro w1 hown1 hgrow1;obtain⟨cur,hblk,hlen⟩:=made_block hown1;have hbel1:=(Below.refl w.heap.size w).grown hgrow1 (Nat.le_refl _) (by simp);obtain⟨w2,w3,c1,c2,c3,hb3⟩:=join_facts (P:=Tryz.prog) (ty:=3) (sT:=9) (a:=a) (b:=b) (dp:=some ⟨w.heap.size,a.size,none⟩) (dLen:=b.size) (dCap:=b.size) Tryz.underlying87 Tryz.underlying5 Tryz.underlying9 Tryz.sizeJ5 hblk hlen rfl hbel1 (fun _=>rfl) (Nat.le_refl _);clear hown1 hgrow1 hblk hlen hbel1)
 go_ret
 exact⟨rfl,by assumption⟩
theorem join_none (a:ByteArray) (w:World) (h:a.size<=1099511627776) :
  Calls Tryz.prog 85 #[.string a,.string ByteArray.empty] w fun e w'=>e=.returned (.string (a++ByteArray.empty))/\Below w.heap.size w w':=by
 obtain⟨i0,hi,hz0,hz1,hz2⟩:=info_parts Tryz.infoJ5
 go_enter Tryz.func85,Tryz.ntmps85
 go_wp2_with (at_make;refine wpList_make_full _ rfl (.tmp 10) (.tmp 10) 87 rfl w.heap.size 5 i0 (.int .u8 0) 1 Tryz.underlying87 hi hz0 hz1 .i64 .i64 _ _ a.size rfl rfl (by simp) (by simp) (by rw[hz2];omega) (by unfold maxLen;omega) (Nat.le_refl _) ?_;intro w1 hown1 hgrow1;obtain⟨cur,hblk,hlen⟩:=made_block hown1;have hbel1:=(Below.refl w.heap.size w).grown hgrow1 (Nat.le_refl _) (by simp);obtain⟨w2,w3,c1,c2,c3,hb3⟩:=join_facts (P:=Tryz.prog) (ty:=3) (sT:=9) (a:=a) (b:=ByteArray.empty) (dp:=some ⟨w.heap.size,0,none⟩) (dLen:=0) (dCap:=0) Tryz.underlying87 Tryz.underlying5 Tryz.underlying9 Tryz.sizeJ5 hblk hlen (by simp) hbel1 (by simp) (by simp);clear hown1 hgrow1 hblk hlen hbel1)
 go_ret
 exact⟨ret_strJ (by simp),by assumption⟩
theorem join_any (a b:ByteArray) (w:World) (h:a.size+b.size<=1099511627776) :
  Calls Tryz.prog 85 #[.string a,.string b] w fun e w'=>e=.returned (.string (a++b))/\Below w.heap.size w w':=by
 by_cases hb:b=ByteArray.empty
 ·subst hb
  exact join_none a w (by omega)
 ·exact join_some a b w h hb
end Go.Proofs.YtkgjfdanjmnmbaaGreatDoor.Nu


namespace Go.Proofs.YtkgjfdanjmnmbaaGreatDoor.Nu
open Go.RowKit
def putT (t:ByteArray):ByteArray:=if t.size<=8000 then putS (t.size:Int)++t else ⟨#[]⟩
theorem putS_size (n:Int):(putS n).size<=10:=by
 have:=(numB_length (zz n)).1
 simpa [putS,ByteArray.size] using this
end Go.Proofs.YtkgjfdanjmnmbaaGreatDoor.Nu


/- The bytes of a List: what both sides answer. -/
namespace Go.Proofs.YtkgjfdanjmnmbaaGreatDoor.Ls
open Go.RowKit
open Pk (cat numsL join_any nums_any)
open St (Strs)
open In (Ints)
open Nu (putS putT put_spec putS_size)
def bytesA (z b:Int) (r:ByteArray):ByteArray:=putS z++putS b++putT r
def bytesL (z b:Int) (r:ByteArray):ByteArray:=if rightB z b r=true then bytesA z b r else ⟨#[]⟩
theorem mixed:Tryz.prog.follows .mixedOrders=true:=by kernel_rfl
end Go.Proofs.YtkgjfdanjmnmbaaGreatDoor.Ls


/- ListBytes: what both sides answer. -/
namespace Go.Proofs.YtkgjfdanjmnmbaaGreatDoor.Ls
open Go.RowKit
open Pk (cat numsL join_any nums_any numsL_le)
open St (Strs)
open In (Ints)
open Nu (putS putT put_spec putS_size)
end Go.Proofs.YtkgjfdanjmnmbaaGreatDoor.Ls


/- Plain mathematics of reading a number: what stands at a place of a text, byte by byte. -/
namespace Go.Proofs.YtkgjfdanjmnmbaaGreatDoor.Gn
def byteN (s:ByteArray) (p:Nat):Nat:=(s.data.toList.getD p 0).toNat
theorem byteN_eq (s:ByteArray) (p:Nat) (h:p<s.size):s[p].toNat=byteN s p:=by
 have h':p<s.data.toList.length:=by simpa using h
 unfold byteN
 rw[List.getD_eq_getElem?_getD,List.getElem?_eq_getElem h']
 rfl
def run (s:ByteArray):Nat->Nat->Nat->Nat->Nat × Nat × Int
 |0,_,_,_=>(0,0,3)
 |f+1,k,p,u =>
  if s.size<=p then (0,0,4)
  else if k=9/\1<byteN s p then (0,0,3)
  else if byteN s p<128 then (if byteN s p=0/\0<k then (0,0,3) else (u+byteN s p%128*2 ^ (7*k),p+1,0))
  else run s f (k+1) (p+1) (u+byteN s p%128*2 ^ (7*k))
def numR (s:ByteArray) (a:Nat):Nat × Nat × Int:=run s 10 0 a 0
theorem run_end (s:ByteArray) (f k p u:Nat) (h:s.size<=p):run s (f+1) k p u=(0,0,4):=by
 rw[run,if_pos h]
theorem run_nine (s:ByteArray) (f k p u:Nat) (h:p<s.size) (hk:k=9) (hc:1<s[p].toNat):run s (f+1) k p u=(0,0,3):=by
 rw[byteN_eq s p h]at hc
 rw[run,if_neg (by omega),if_pos ⟨hk,hc⟩]
theorem run_zero (s:ByteArray) (f k p u:Nat) (h:p<s.size) (hc:s[p].toNat=0) (hk:0<k):run s (f+1) k p u=(0,0,3):=by
 rw[byteN_eq s p h]at hc
 rw[run,if_neg (by omega),if_neg (by omega),if_pos (by omega),if_pos ⟨hc,hk⟩]
theorem run_last (s:ByteArray) (f k p u:Nat) (h:p<s.size) (h9:¬(k=9/\1<s[p].toNat)) (hc:s[p].toNat<128) (hz:¬(s[p].toNat=0/\0<k)) :
  run s (f+1) k p u=(u+s[p].toNat%128*2 ^ (7*k),p+1,0):=by
 rw[byteN_eq s p h]at hc hz h9 ⊢
 rw[run,if_neg (by omega),if_neg h9,if_pos hc,if_neg hz]
theorem run_more (s:ByteArray) (f k p u:Nat) (h:p<s.size) (hk:k≠9) (hc:128<=s[p].toNat) :
  run s (f+1) k p u=run s f (k+1) (p+1) (u+s[p].toNat%128*2 ^ (7*k)):=by
 rw[byteN_eq s p h]at hc ⊢
 rw[run,if_neg (by omega),if_neg (by omega),if_neg (by omega)]
theorem pow_le (k:Nat) (hk:k<=9):2 ^ (7*k)<=9223372036854775808:=by
 have:2 ^ (7*k)<=2 ^ 63:=Nat.pow_le_pow_right (by decide) (by omega)
 exact this
theorem pow_next (k:Nat):2 ^ (7*(k+1))=128*2 ^ (7*k):=by
 rw[show 7*(k+1)=7+7*k by omega,Nat.pow_add]
theorem part_lt (c k:Nat):c%128*2 ^ (7*k)<=127*2 ^ (7*k):=Nat.mul_le_mul_right _ (by omega)
theorem next_lt (u c k:Nat) (hu:u<2 ^ (7*k)):u+c%128*2 ^ (7*k)<2 ^ (7*(k+1)):=by
 rw[pow_next]
 have:=part_lt c k
 omega
theorem next_small (u c k:Nat) (hu:u<2 ^ (7*k)) (hk:k<=9) (h9:¬(k=9/\1<c)):c%128*2 ^ (7*k)<=9223372036854775808/\u+c%128*2 ^ (7*k)<=18446744073709551615:=by
 have hp:=pow_le k hk
 by_cases e:k=9
 ·have hc:c%128<=1:=by omega
  have:=Nat.mul_le_mul_right (2 ^ (7*k)) hc
  omega
 ·have hn:=next_lt u c k hu
  have:=pow_le (k+1) (by omega)
  omega
theorem or_add (u c k:Nat) (hu:u<2 ^ (7*k)):u ||| (c%128*2 ^ (7*k))=u+c%128*2 ^ (7*k):=by
 rw[Nat.or_comm,nat_join (7*k) (c%128*2 ^ (7*k)) u (Nat.mul_mod_left _ _) hu,Nat.add_comm]
def unz (u:Nat):Int:=if u%2=1 then -((u/2:Nat):Int)-1 else ((u/2:Nat):Int)
theorem wrap_part (c k:Nat) (h:c%128*2 ^ (7*k)<=9223372036854775808):IntKind.u64.wrap ((c:Int)%128*2 ^ (7*k))=((c%128*2 ^ (7*k):Nat):Int):=by
 have e:((c:Int)%128*2 ^ (7*k))=((c%128*2 ^ (7*k):Nat):Int):=by
  rw[Int.natCast_mul,Int.natCast_emod,Int.natCast_pow];rfl
 rw[e,IntKind.wrap_u64]
 omega
theorem wrap_next (v c k:Nat) (h1:c%128*2 ^ (7*k)<=9223372036854775808) (h2:v+c%128*2 ^ (7*k)<=18446744073709551615) :
  IntKind.u64.wrap ((v:Int)+IntKind.u64.wrap ((c:Int)%128*2 ^ (7*k)))=((v+c%128*2 ^ (7*k):Nat):Int):=by
 rw[wrap_part c k h1,IntKind.wrap_u64]
 omega
theorem unz_odd (x:Nat) (h:x%2=1):unz x = -((x/2:Nat):Int)-1:=by unfold unz;rw[if_pos h]
theorem unz_even (x:Nat) (h:¬x%2=1):unz x=((x/2:Nat):Int):=by unfold unz;rw[if_neg h]
theorem and_low (c:Nat) (h:c<256):bits BinOp.and IntKind.u8 (c:Int) 127=((c%128:Nat):Int):=by
 have:=u8_and_nat c 127 h (by decide)
 rw[nat_mask7]at this
 exact this
theorem shl_part (y k:Nat) (h:y*2 ^ (7*k)<=9223372036854775808):IntKind.u64.wrap ((y:Int)*2 ^ (7*k))=((y*2 ^ (7*k):Nat):Int):=by
 have e:((y:Int)*2 ^ (7*k))=((y*2 ^ (7*k):Nat):Int):=by
  rw[Int.natCast_mul,Int.natCast_pow];rfl
 rw[e,IntKind.wrap_u64]
 omega
theorem or_part (v c k:Nat) (hv:v<2 ^ (7*k)) (h1:c%128*2 ^ (7*k)<=9223372036854775808) (h2:v<=9223372036854775807) :
  bits BinOp.or IntKind.u64 (v:Int) ((c%128*2 ^ (7*k):Nat):Int)=((v+c%128*2 ^ (7*k):Nat):Int):=by
 rw[u64_or_nat v _ (by omega) (by omega),or_add v c k hv]
theorem unz_odd' (x:Nat) (h:x%2=1):-((x:Int)/2)-1=unz x:=by rw[unz_odd x h];omega
theorem unz_even' (x:Nat) (h:¬x%2=1):(x:Int)/2=unz x:=by rw[unz_even x h];omega
end Go.Proofs.YtkgjfdanjmnmbaaGreatDoor.Gn

