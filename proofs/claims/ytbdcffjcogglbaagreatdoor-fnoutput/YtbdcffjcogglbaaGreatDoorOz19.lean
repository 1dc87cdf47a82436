import Derived.BigRegion
import Derived.BigQuiet
import Derived.Deep.QuietTactic
import Derived.Test.YtbdcffjcogglbaaGreatDoorOz11
import Derived.Test.YtbdcffjcogglbaaGreatDoorProg
import Derived.Laws.OwnMore
import Derived.Deep.RegionLaw
import Derived.Lib.SliceRun
import Derived.Deep.Upon
import Derived.Deep.RegionWith
import Derived.StillTailTactics
set_option maxRecDepth 100000
set_option maxHeartbeats 8000000
namespace Go.Proofs.YtbdcffjcogglbaaGreatDoor
open Go.RowKit
open Go.Proofs.Tryz
namespace In
def Ints (w:World) (B:Nat) (a:Option Addr) (l:List Int):Prop :=
 l=[]∨∃ b off,a=some ⟨b,off,none⟩/\b<B/\∀ j (h:j<l.length),w.cell? ⟨b,off+j,none⟩=some (.int .i64 l[j])
theorem Ints.below {w w':World} {B:Nat} {a:Option Addr} {l:List Int} (h:Ints w B a l) (hb:Below B w w'):Ints w' B a l:=by
 rcases h with h0|⟨b,off,rfl,hlt,hc⟩
 ·exact .inl h0
 ·exact .inr ⟨b,off,rfl,hlt,fun j hj=>(hb.cell (p:=⟨b,off+j,none⟩) hlt).trans (hc j hj)⟩
theorem Ints.mono {w:World} {B C:Nat} {a:Option Addr} {l:List Int} (h:Ints w B a l) (hBC:B<=C):Ints w C a l:=by
 rcases h with h0|⟨b,off,rfl,hlt,hc⟩
 ·exact .inl h0
 ·exact .inr ⟨b,off,rfl,Nat.lt_of_lt_of_le hlt hBC,hc⟩
theorem Ints.some {w:World} {B:Nat} {a:Option Addr} {l:List Int} (h:Ints w B a l) (hl:0<l.length) :
  ∃ b off,a=.some ⟨b,off,none⟩/\b<B/\∀ j (h:j<l.length),w.cell? ⟨b,off+j,none⟩=.some (.int .i64 l[j]):=by
 rcases h with h0|h
 ·subst h0;simp at hl
 ·exact h
def irow (l:List Int):Array Value:=(l.map (Value.int .i64)).toArray
def IsI (w:World) (g:Nat) (t:TypeId) (l:List Int):Prop:=w.heap[g]? = some (.cells (irow l) t (0,0))
theorem irow_size (l:List Int):(irow l).size=l.length:=by simp[irow]
theorem irow_get (l:List Int) (j:Nat) (h:j<l.length):(irow l)[j]? = some (.int .i64 l[j]):=by simp[irow,h]
theorem irow_set (l:List Int) (i:Nat) (s:Int):(irow l).setIfInBounds i (.int .i64 s)=irow (l.set i s):=by
 simp[irow,List.map_set]
theorem IsI.cell {w:World} {g t:Nat} {l:List Int} (h:IsI w g t l) {j:Nat} (hj:j<l.length):w.cell? ⟨g,j,none⟩=some (.int .i64 l[j]):=by
 rw[cell_of_row w g j _ t (0,0) h,irow_get l j hj]
theorem IsI.frozen {w:World} {g t:Nat} {l:List Int} (h:IsI w g t l) (j:Nat):w.frozen? ⟨g,j,none⟩=false:=frozen_of_row w g j _ t h
theorem IsI.set {w:World} {g t:Nat} {l:List Int} (h:IsI w g t l) (i:Nat) (s:Int):IsI (w.setCell ⟨g,i,none⟩ (.int .i64 s)) g t (l.set i s):=by
 unfold IsI;rw[heap_setCell_same w g i _ t _ h,irow_set]
theorem IsI.set_other {w:World} {g t:Nat} {l:List Int} (h:IsI w g t l) (a:Addr) (v:Value) (ha:g≠a.block):IsI (w.setCell a v) g t l:=by
 unfold IsI;rw[heap_setCell_other w a g v ha];exact h
theorem IsI.lt {w:World} {g t:Nat} {l:List Int} (h:IsI w g t l):g<w.heap.size:=(Array.getElem?_eq_some_iff.1 h).1
theorem IsI.below {w w':World} {g t B:Nat} {l:List Int} (h:IsI w g t l) (b:Below B w w') (hg:g<B):IsI w' g t l:=by
 unfold IsI;rw[b.block g hg];exact h
theorem IsI.ints {w:World} {g t B:Nat} {l:List Int} (h:IsI w g t l) (hB:g<B):Ints w B (some ⟨g,0,none⟩) l :=
 .inr ⟨g,0,rfl,hB,fun j hj=>by rw[Nat.zero_add];exact h.cell hj⟩
def mid (l:List Int) (k:Nat):List Int:=l.take k++List.replicate (l.length-k) 0
theorem made_ints {w:World} {base e g n:Nat} (h:w.ownsRow base e 1 (.slice (some ⟨g,0,none⟩) n n) n (madeCells (Value.int .i64 0).cells (n*1)).toList):IsI w g e (List.replicate n 0):=by
 obtain⟨_,h⟩:=h
 rcases h with⟨h,_⟩|⟨g',cap,cur,hv,_,hb,_,_,hsz,htk⟩
 ·simp at h
 ·simp at hv
  obtain⟨rfl,rfl⟩:=hv
  have hm:(madeCells (Value.int .i64 0).cells (n*1)).toList=(irow (List.replicate n 0)).toList:=by
   rw[Nat.mul_one]
   have:=toList_madeCells_one (.int .i64 0) n
   simp only[irow,List.map_replicate];exact this
  rw[hm,List.take_of_length_le (by simp[hsz])]at htk
  have:cur=irow (List.replicate n 0):=by simpa using htk
  rw[this]at hb;exact hb
theorem Tryz.infoI2:(prog.info? 2).map (fun i=>(i.zero,i.size,i.bytes))=some (some (.int .i64 0),1,8):=by kernel_rfl
end In
namespace In
open St (Aft)
def IsO (w:World) (g t:Nat) (l:List Int):Prop:=∃ cur:Array Value,w.heap[g]? = some (.cells cur t (0,0))/\∀ j (h:j<l.length),cur[j]? = some (.int .i64 l[j])
theorem IsO.cell {w:World} {g t:Nat} {l:List Int} (h:IsO w g t l) {j:Nat} (hj:j<l.length):w.cell? ⟨g,j,none⟩=some (.int .i64 l[j]):=by
 obtain⟨cur,hb,hc⟩:=h;rw[cell_of_row w g j _ t (0,0) hb,hc j hj]
theorem IsO.frozen {w:World} {g t:Nat} {l:List Int} (h:IsO w g t l) (j:Nat):w.frozen? ⟨g,j,none⟩=false:=by
 obtain⟨cur,hb,_⟩:=h;exact frozen_of_row w g j _ t hb
theorem IsO.set {w:World} {g t:Nat} {l:List Int} (h:IsO w g t l) (i:Nat) (s:Int):IsO (w.setCell ⟨g,i,none⟩ (.int .i64 s)) g t (l.set i s):=by
 obtain⟨cur,hb,hc⟩:=h;refine⟨_,heap_setCell_same w g i _ t _ hb,fun j hj=>?_⟩;rw[List.length_set]at hj;rw[Array.getElem?_setIfInBounds,List.getElem_set];have hlt:j<cur.size:=(Array.getElem?_eq_some_iff.1 (hc j hj)).1;by_cases e:i=j
 ·subst e
  simp[hlt]
 ·simp[e,hc j hj]
theorem IsO.lt {w:World} {g t:Nat} {l:List Int} (h:IsO w g t l):g<w.heap.size:=by
 obtain⟨cur,hb,_⟩:=h;exact(Array.getElem?_eq_some_iff.1 hb).1
theorem IsO.of_heap {w w':World} {g t:Nat} {l:List Int} (h:IsO w g t l) (e:w'.heap[g]? = w.heap[g]?):IsO w' g t l:=by
 obtain⟨cur,hb,hc⟩:=h;exact⟨cur,by rw[e];exact hb,hc⟩
theorem IsO.below {w w':World} {g t B:Nat} {l:List Int} (h:IsO w g t l) (b:Below B w w') (hg:g<B):IsO w' g t l:=h.of_heap (b.block g hg)
theorem IsO.ints {w:World} {g t B:Nat} {l:List Int} (h:IsO w g t l) (hB:g<B):Ints w B (some ⟨g,0,none⟩) l :=
 .inr ⟨g,0,rfl,hB,fun j hj=>by rw[Nat.zero_add];exact h.cell hj⟩
theorem IsI.own {w:World} {g t:Nat} {l:List Int} (h:IsI w g t l):IsO w g t l:=⟨irow l,h,fun j hj=>irow_get l j hj⟩
def marks (k n:Nat):List Int:=(List.range n).map fun j=>((k+j:Nat):Int)
def mmid (l:List Int) (k i:Nat):List Int:=marks k i++l.drop i
end In
namespace In
open St (Aft)
def OwnI (w:World) (base:Nat) (v:Value) (l:List Int):Prop:=w.ownsRow base 2 1 v l.length (l.map (Value.int .i64))
theorem OwnI.nil (w:World) (base:Nat):OwnI w base (.slice none 0 0) []:=World.ownsRow_nil w base _ _
theorem OwnI.split {w:World} {base:Nat} {v:Value} {l:List Int} (h:OwnI w base v l) :
  (v=.slice none 0 0/\l=[])∨∃ g cap,v=.slice (some ⟨g,0,none⟩) l.length cap/\base<=g/\l.length<=cap/\IsO w g 2 l:=by
 obtain⟨_,h⟩:=h
 rcases h with⟨h,h0⟩|⟨g,cap,cur,hv,hg,hb,hnc,_,hsz,htk⟩
 ·exact .inl ⟨h,List.eq_nil_of_length_eq_zero h0⟩
 ·refine .inr ⟨g,cap,hv,hg,hnc,cur,hb,fun j hj=>?_⟩
  rw[<-Array.getElem?_toList]
  have h1:cur.toList[j]? = (cur.toList.take (l.length*1))[j]?:=by rw[List.getElem?_take_of_lt (by omega)]
  rw[h1,htk];simp[hj]
theorem OwnI.below {w w':World} {base:Nat} {v:Value} {l:List Int} (h:OwnI w base v l) (b:Below w.heap.size w w'):OwnI w' base v l:=by
 obtain⟨hl,h⟩:=h;refine⟨hl,?_⟩
 rcases h with h|⟨g,cap,cur,hv,hg,hb,rest⟩
 ·exact .inl h
 ·exact .inr ⟨g,cap,cur,hv,hg,by rw[b.block g (Array.getElem?_eq_some_iff.1 hb).1];exact hb,rest⟩
theorem OwnI.mono {w:World} {base base':Nat} {v:Value} {l:List Int} (h:OwnI w base v l) (hb:base'<=base):OwnI w base' v l:=by
 obtain⟨hl,h⟩:=h;refine⟨hl,?_⟩
 rcases h with h|⟨g,cap,cur,hv,hg,rest⟩
 ·exact .inl h
 ·exact .inr ⟨g,cap,cur,hv,Nat.le_trans hb hg,rest⟩
theorem OwnI.ints {w:World} {base:Nat} {v:Value} {l:List Int} (h:OwnI w base v l):∃ a cap,v=.slice a l.length cap/\l.length<=cap/\Ints w w.heap.size a l:=by
 rcases h.split with⟨rfl,rfl⟩|⟨g,cap,rfl,_,hc,ho⟩
 ·exact⟨none,0,rfl,nl,.inl rfl⟩
 ·exact⟨_,cap,rfl,hc,ho.ints ho.lt⟩
theorem one_newI (W:World) (s:Int) (t:TypeId):∀ (j:Nat) (u:Value),[(Value.int .i64) s][j]? = some u->(W.alloc (.cells #[.int .i64 s] t)).cell? ((⟨W.heap.size,0,none⟩:Addr).add j)=some u:=by
 intro j u hj
 match j,hj with
 |0,hj=>simp at hj;subst hj;simp[Addr.add]
theorem one_cellI (s:Int):∀ u∈[(Value.int .i64) s],u.oneCell'=true:=by
 intro u hu;simp at hu;subst hu;rfl
theorem OwnI.snoc {w:World} {base:Nat} {v:Value} {l:List Int} {s:Int} (h:w.ownsRow base 2 1 v (l.length+1) (l.map (Value.int .i64)++[.int .i64 s])):OwnI w base v (l++[s]):=by
 unfold OwnI;rw[List.length_append,List.map_append];exact h
theorem app_one {B base:Nat} {e:TypeId} {w0 w w1:World} {v:Value} {n size:Nat} {xs:List Value} {o:Obj} (hbel:Below B w0 w) (hB:B<=w.heap.size) (hBb:B<=base)
  (hown:w.ownsRow base e size v n xs) (hgrow:(w.alloc o).grownBy w1 v.ownBlock):Below B w0 w1:=by
 refine(hbel.alloc hB o).grown hgrow (by simp;omega) ?_;intro k hk;exact Nat.le_trans hBb (hown.lt k hk).1
end In
namespace Gn
def byteN (s:ByteArray) (p:Nat):Nat:=(s.data.toList.getD p 0).toNat
theorem byteN_eq (s:ByteArray) (p:Nat) (h:p<s.size):s[p].toNat=byteN s p:=by
 have h':p<s.data.toList.length:=by simpa using h
 unfold byteN;rw[List.getD_eq_getElem?_getD,List.getElem?_eq_getElem h'];rfl
def run (s:ByteArray):Nat->Nat->Nat->Nat->Nat × Nat × Int
 |0,_,_,_=>(0,0,3)
 |f+1,k,p,u =>
  if s.size<=p then (0,0,4)
  else if k=9/\1<byteN s p then (0,0,3)
  else if byteN s p<128 then (if byteN s p=0/\0<k then (0,0,3) else (u+byteN s p%128*2 ^ (7*k),p+1,0))
  else run s f (k+1) (p+1) (u+byteN s p%128*2 ^ (7*k))
def numR (s:ByteArray) (a:Nat):Nat × Nat × Int:=run s 10 0 a 0
theorem run_end (s:ByteArray) (f k p u:Nat) (h:s.size<=p):run s (f+1) k p u=(0,0,4):=by
 rw[run,if_pos h]
theorem run_nine (s:ByteArray) (f k p u:Nat) (h:p<s.size) (hk:k=9) (hc:1<s[p].toNat):run s (f+1) k p u=(0,0,3):=by
 rw[byteN_eq s p h]at hc;rw[run,if_neg (by omega),if_pos ⟨hk,hc⟩]
theorem run_zero (s:ByteArray) (f k p u:Nat) (h:p<s.size) (hc:s[p].toNat=0) (hk:0<k):run s (f+1) k p u=(0,0,3):=by
 rw[byteN_eq s p h]at hc;rw[run,if_neg (by omega),if_neg (by omega),if_pos (by omega),if_pos ⟨hc,hk⟩]
theorem run_last (s:ByteArray) (f k p u:Nat) (h:p<s.size) (h9:¬(k=9/\1<s[p].toNat)) (hc:s[p].toNat<128) (hz:¬(s[p].toNat=0/\0<k)) :
  run s (f+1) k p u=(u+s[p].toNat%128*2 ^ (7*k),p+1,0):=by
 rw[byteN_eq s p h]at hc hz h9 ⊢;rw[run,if_neg (by omega),if_neg h9,if_pos hc,if_neg hz]
theorem run_more (s:ByteArray) (f k p u:Nat) (h:p<s.size) (hk:k≠9) (hc:128<=s[p].toNat) :
  run s (f+1) k p u=run s f (k+1) (p+1) (u+s[p].toNat%128*2 ^ (7*k)):=by
 rw[byteN_eq s p h]at hc ⊢;rw[run,if_neg (by omega),if_neg (by omega),if_neg (by omega)]
theorem pow_le (k:Nat) (hk:k<=9):2 ^ (7*k)<=9223372036854775808:=by
 have:2 ^ (7*k)<=2 ^ 63:=Nat.pow_le_pow_right (by decide) (by omega)
 exact this
theorem pow_next (k:Nat):2 ^ (7*(k+1))=128*2 ^ (7*k):=by
 rw[show 7*(k+1)=7+7*k by omega,Nat.pow_add]
theorem part_lt (c k:Nat):c%128*2 ^ (7*k)<=127*2 ^ (7*k):=Nat.mul_le_mul_right _ (by omega)
theorem next_lt (u c k:Nat) (hu:u<2 ^ (7*k)):u+c%128*2 ^ (7*k)<2 ^ (7*(k+1)):=by
 rw[pow_next]
 have:=part_lt c k
 omega
theorem next_small (u c k:Nat) (hu:u<2 ^ (7*k)) (hk:k<=9) (h9:¬(k=9/\1<c)):c%128*2 ^ (7*k)<=9223372036854775808/\u+c%128*2 ^ (7*k)<=18446744073709551615:=by
 have hp:=pow_le k hk;by_cases e:k=9
 ·have hc:c%128<=1:=by omega
  have:=Nat.mul_le_mul_right (2 ^ (7*k)) hc
  omega
 ·have hn:=next_lt u c k hu
  have:=pow_le (k+1) (by omega)
  omega
theorem or_add (u c k:Nat) (hu:u<2 ^ (7*k)):u ||| (c%128*2 ^ (7*k))=u+c%128*2 ^ (7*k):=by
 rw[Nat.or_comm,nat_join (7*k) (c%128*2 ^ (7*k)) u (Nat.mul_mod_left _ _) hu,Nat.add_comm]
def unz (u:Nat):Int:=if u%2=1 then -((u/2:Nat):Int)-1 else ((u/2:Nat):Int)
theorem unz_odd (x:Nat) (h:x%2=1):unz x = -((x/2:Nat):Int)-1:=by unfold unz;rw[if_pos h]
theorem unz_even (x:Nat) (h:¬x%2=1):unz x=((x/2:Nat):Int):=by unfold unz;rw[if_neg h]
theorem and_low (c:Nat) (h:c<256):bits BinOp.and IntKind.u8 (c:Int) 127=((c%128:Nat):Int):=by
 have:=u8_and_nat c 127 h (by decide)
 rw[nat_mask7]at this;exact this
theorem shl_part (y k:Nat) (h:y*2 ^ (7*k)<=9223372036854775808):IntKind.u64.wrap ((y:Int)*2 ^ (7*k))=((y*2 ^ (7*k):Nat):Int):=by
 have e:((y:Int)*2 ^ (7*k))=((y*2 ^ (7*k):Nat):Int):=by
  rw[Int.natCast_mul,Int.natCast_pow];rfl
 rw[e,IntKind.wrap_u64];omega
theorem or_part (v c k:Nat) (hv:v<2 ^ (7*k)) (h1:c%128*2 ^ (7*k)<=9223372036854775808) (h2:v<=9223372036854775807) :
  bits BinOp.or IntKind.u64 (v:Int) ((c%128*2 ^ (7*k):Nat):Int)=((v+c%128*2 ^ (7*k):Nat):Int):=by
 rw[u64_or_nat v _ (by omega) (by omega),or_add v c k hv]
theorem unz_even' (x:Nat) (h:¬x%2=1):(x:Int)/2=unz x:=by rw[unz_even x h];omega
theorem hide {p:Prop} (h:p):Hid p:=h
def outN (n at_ code:Int):Value:=.agg #[.int .i64 n,.int .i64 at_,.int .i64 code]
def resV (r:Nat × Nat × Int):Value:=if r.2.2=0 then outN (unz r.1) r.2.1 0 else outN 0 0 r.2.2
def getV (s:ByteArray) (a:Int):Value:=if 8000<s.size then outN 0 0 2 else if a<0 then outN 0 0 1 else resV (numR s a.toNat)
end Gn
namespace Hf
abbrev Tree:=Nat × List Nat
def wt (l:List Tree) (i:Nat):Nat:=(l.getD i (0,[])).1
def least (l:List Tree):Nat->Nat
 |0=>0
 |i+1=>if wt l i<wt l (least l i) then i else least l i
theorem least_le (l:List Tree):∀ i,least l i<=i-1
 |0=>nl
 |i+1=>by
  rw[least]
  have:=least_le l i
  split<;>omega
theorem least_lt (l:List Tree) (h:0<l.length):least l l.length<l.length:=by
 have:=least_le l l.length
 omega
theorem least_min (l:List Tree):∀ i j,j<i->wt l (least l i)<=wt l j
 |0,j,h=>by omega
 |i+1,j,h=>by
  rw[least];by_cases hj:j=i
  ·subst hj
   split<;>omega
  ·have:=least_min l i j (by omega)
   split<;>omega
def at0 (l:List Tree) (i:Nat):Tree:=l.getD i (0,[])
def first (l:List Tree):Tree:=at0 l (least l l.length)
def rest1 (l:List Tree):List Tree:=l.eraseIdx (least l l.length)
def second (l:List Tree):Tree:=first (rest1 l)
def rest2 (l:List Tree):List Tree:=rest1 (rest1 l)
def both (l:List Tree):Tree:=((first l).1+(second l).1,(first l).2++(second l).2)
def join (l:List Tree):List Tree:=rest2 l++[both l]
theorem rest1_length (l:List Tree) (h:0<l.length):(rest1 l).length=l.length-1:=by
 unfold rest1;rw[List.length_eraseIdx,if_pos (least_lt l h)]
theorem rest2_length (l:List Tree) (h:2<=l.length):(rest2 l).length=l.length-2:=by
 unfold rest2;rw[rest1_length _ (by rw[rest1_length l (by omega)];omega),rest1_length l (by omega)];omega
theorem join_length (l:List Tree) (h:2<=l.length):(join l).length=l.length-1:=by
 unfold join;rw[List.length_append,rest2_length l h];simp;omega
def incs (d:List Nat) (s:List Nat):List Nat:=s.foldl (fun d k=>d.set k (d.getD k 0+1)) d
theorem incs_length (s:List Nat):∀ d,(incs d s).length=d.length:=by
 unfold incs
 induction s with
 |nil=>intro d;rfl
 |cons k s ih =>
  intro d;rw[List.foldl_cons,ih,List.length_set]
theorem getD_set (d:List Nat) (k j v:Nat) (hk:k<d.length):(d.set k v).getD j 0=if j=k then v else d.getD j 0:=by
 rw[List.getD_eq_getElem?_getD,List.getElem?_set];by_cases h:k=j
 ·subst h
  rw[if_pos rfl,if_pos hk,if_pos rfl];rfl
 ·rw[if_neg h,if_neg (fun e=>h e.symm),List.getD_eq_getElem?_getD]
theorem incs_at (s:List Nat):∀ (d:List Nat) (j:Nat),s.Nodup->(∀ k∈s,k<d.length)->(incs d s).getD j 0=if j∈s then d.getD j 0+1 else d.getD j 0:=by
 unfold incs
 induction s with
 |nil=>intro d j _ _;simp
 |cons k s ih =>
  intro d j hn hk;obtain⟨h1,h2⟩:=List.nodup_cons.1 hn;have hkd:=hk k (List.mem_cons_self ..);rw[List.foldl_cons,ih (d.set k (d.getD k 0+1)) j h2 (fun x hx=>by rw[List.length_set];exact hk x (List.mem_cons_of_mem _ hx)),getD_set _ _ _ _ hkd];by_cases hj:j=k
  ·subst hj
   rw[if_neg h1,if_pos rfl,if_pos (List.mem_cons_self ..)]
  ·rw[if_neg hj]
   by_cases hs:j∈s
   ·rw[if_pos hs,if_pos (List.mem_cons_of_mem _ hs)]
   ·rw[if_neg hs,if_neg (fun h=>by rcases List.mem_cons.1 h with h|h;exact hj h;exact hs h)]
def run:Nat->List Tree->List Nat->List Nat
 |0,_,d=>d
 |f+1,l,d=>if l.length<=1 then d else run f (join l) (incs (incs d (first l).2) (second l).2)
theorem run_done (f:Nat) (l:List Tree) (d:List Nat) (h:l.length<=1):run f l d=d:=by
 cases f with
 |zero=>rfl
 |succ f=>rw[run,if_pos h]
theorem run_more (l:List Tree) (d:List Nat) (h:¬l.length<=1):run l.length l d=run (join l).length (join l) (incs (incs d (first l).2) (second l).2):=by
 rw[join_length l (by omega)];obtain⟨f,hf⟩:∃ f,l.length=f+1:=⟨l.length-1,by omega⟩;rw[hf,run,if_neg h];rfl
def fib:Nat->Nat
 |0=>0
 |1=>1
 |n+2=>fib n+fib (n+1)
theorem fib_le (n:Nat):fib n<=fib (n+1):=by
 cases n with
 |zero=>decide
 |succ n =>
  rw[show fib (n+1+1)=fib n+fib (n+1) from rfl];omega
theorem fib_mono {m n:Nat} (h:m<=n):fib m<=fib n:=by
 induction n with
 |zero =>
  have:m=0:=by omega
  rw[this];exact nl
 |succ n ih =>
  by_cases hm:m=n+1
  ·rw[hm]
   exact nl
  ·exact Nat.le_trans (ih (by omega)) (fib_le n)
def dep (d:List Nat) (s:Nat):Nat:=d.getD s 0
def sep (d:List Nat) (t u:Tree):Prop:=(∀ s∈t.2,fib (dep d s+1)<=u.1)/\(∀ s∈u.2,fib (dep d s+1)<=t.1)/\∀ s∈t.2,s ∉ u.2
theorem sep_symm {d:List Nat} {t u:Tree} (h:sep d t u):sep d u t:=⟨h.2.1,h.1,fun s hs ht=>h.2.2 s ht hs⟩
structure Inv (l:List Tree) (d:List Nat) (n:Nat):Prop where
 own:∀ t∈l,∀ s∈t.2,fib (dep d s+2)<=t.1
 nd:∀ t∈l,t.2.Nodup
 lt:∀ t∈l,∀ s∈t.2,s<d.length
 pw:l.Pairwise (sep d)
 sum:(l.map (·.1)).sum=n
 o:∀ s,(∀ t∈l,s ∉ t.2)->dep d s=0
theorem Inv.perm {l l':List Tree} {d:List Nat} {n:Nat} (h:Inv l d n) (p:l.Perm l'):Inv l' d n :=
 ⟨fun t ht=>h.own t (p.mem_iff.2 ht),fun t ht=>h.nd t (p.mem_iff.2 ht),fun t ht=>h.lt t (p.mem_iff.2 ht),(p.pairwise_iff sep_symm).1 h.pw,(p.map _).sum_nat.symm.trans h.sum,fun s hs=>h.o s fun t ht=>hs t (p.mem_iff.1 ht)⟩
theorem first_mem (l:List Tree) (h:0<l.length):first l=l[least l l.length]'(least_lt l h):=by
 unfold first at0;rw[List.getD_eq_getElem?_getD,List.getElem?_eq_getElem (least_lt l h)];rfl
theorem erase_perm:∀ (l:List Tree) (i:Nat) (h:i<l.length),l.Perm (l[i] :: l.eraseIdx i)
 |[],i,h=>absurd h (Nat.not_lt_zero i)
 |_ :: _,0,_=>List.Perm.refl _
 |x :: l,i+1,h=>((erase_perm l i (Nat.lt_of_succ_lt_succ h)).cons x).trans (List.Perm.swap _ _ _)
theorem le_sum:∀ (l:List Nat) (x:Nat),x∈l->x<=l.sum
 |[],x,h=>absurd h (List.not_mem_nil)
 |y :: l,x,h=>by
  rw[List.sum_cons]
  rcases List.mem_cons.1 h with rfl|h
  ·omega
  ·have:=le_sum l x h
   omega
theorem first_perm (l:List Tree) (h:0<l.length):l.Perm (first l :: rest1 l):=by
 rw[first_mem l h];exact erase_perm l _ (least_lt l h)
theorem first_min (l:List Tree) (t:Tree) (ht:t∈l):(first l).1<=t.1:=by
 obtain⟨j,hj,rfl⟩:=List.getElem_of_mem ht
 have:=least_min l l.length j hj
 unfold wt at this;rw[show (l.getD j (0,[]))=l[j] by rw[List.getD_eq_getElem?_getD,List.getElem?_eq_getElem hj];rfl]at this;exact this
theorem two_perm (l:List Tree) (h:2<=l.length):l.Perm (first l :: second l :: rest2 l) :=
 (first_perm l (by omega)).trans ((first_perm (rest1 l) (by rw[rest1_length l (by omega)];omega)).cons _)
theorem join_perm (l:List Tree):(join l).Perm (both l :: rest2 l):=List.perm_append_comm
theorem two_dep (d a b:List Nat) (ha:a.Nodup) (hb:b.Nodup) (hab:∀ s∈a,s ∉ b) (la:∀ s∈a,s<d.length) (lb:∀ s∈b,s<d.length) (s:Nat):dep (incs (incs d a) b) s=if s∈a++b then dep d s+1 else dep d s:=by
 unfold dep;rw[incs_at b _ s hb (fun k hk=>by rw[incs_length];exact lb k hk),incs_at a d s ha la];by_cases h1:s∈a
 ·rw[if_neg (hab s h1),if_pos h1,if_pos (List.mem_append_left _ h1)]
 ·by_cases h2:s∈b
  ·rw[if_pos h2,if_neg h1,if_pos (List.mem_append_right _ h2)]
  ·rw[if_neg h2,if_neg h1,if_neg (fun h=>by rcases List.mem_append.1 h with h|h;exact h1 h;exact h2 h)]
theorem Inv.two {a b:Tree} {r:List Tree} {d:List Nat} {n:Nat} (h:Inv (a :: b :: r) d n) (hm:∀ c∈r,a.1<=c.1/\b.1<=c.1):Inv ((a.1+b.1,a.2++b.2) :: r) (incs (incs d a.2) b.2) n:=by
 have ma:a∈a :: b :: r:=List.mem_cons_self ..;have mb:b∈a :: b :: r:=List.mem_cons_of_mem _ (List.mem_cons_self ..);have mr:∀ c∈r,c∈a :: b :: r:=fun c hc=>List.mem_cons_of_mem _ (List.mem_cons_of_mem _ hc);obtain⟨pa,pb'⟩:=List.pairwise_cons.1 h.pw;obtain⟨pb,pr⟩:=List.pairwise_cons.1 pb';have sab:=pa b (List.mem_cons_self ..);have hd:=two_dep d a.2 b.2 (h.nd a ma) (h.nd b mb) sab.2.2 (h.lt a ma) (h.lt b mb)
 have hlen:(incs (incs d a.2) b.2).length=d.length:=by rw[incs_length,incs_length]
 have hout:∀ c∈r,∀ s∈c.2,dep (incs (incs d a.2) b.2) s=dep d s:=fun c hc s hs=>by
  rw[hd,if_neg];intro hx
  rcases List.mem_append.1 hx with hx|hx
  ·exact(pa c (List.mem_cons_of_mem _ hc)).2.2 s hx hs
  ·exact(pb c hc).2.2 s hx hs
 refine⟨?_,?_,?_,?_,?_,?_⟩
 ·intro t ht s hs
  rcases List.mem_cons.1 ht with rfl|ht
  ·rw[hd,if_pos hs,show fib (dep d s+1+2)=fib (dep d s+1)+fib (dep d s+2) from rfl]
   show _<=a.1+b.1
   rcases List.mem_append.1 hs with hs|hs
   ·have h1:=sab.1 s hs
    have h2:=h.own a ma s hs;omega
   ·have h1:=sab.2.1 s hs
    have h2:=h.own b mb s hs;omega
  ·rw[hout t ht s hs]
   exact h.own t (mr t ht) s hs
 ·intro t ht
  rcases List.mem_cons.1 ht with rfl|ht
  ·exact List.nodup_append.2 ⟨h.nd a ma,h.nd b mb,fun x hx y hy e=>sab.2.2 x hx (e ▸ hy)⟩
  ·exact h.nd t (mr t ht)
 ·intro t ht s hs
  rw[hlen]
  rcases List.mem_cons.1 ht with rfl|ht
  ·rcases List.mem_append.1 hs with hs|hs
   ·exact h.lt a ma s hs
   ·exact h.lt b mb s hs
  ·exact h.lt t (mr t ht) s hs
 ·refine List.pairwise_cons.2 ⟨fun c hc=>⟨?_,?_,?_⟩,?_⟩
  ·intro s hs
   rw[hd,if_pos hs]
   rcases List.mem_append.1 hs with hs|hs
   ·exact Nat.le_trans (h.own a ma s hs) (hm c hc).1
   ·exact Nat.le_trans (h.own b mb s hs) (hm c hc).2
  ·intro s hs
   rw[hout c hc s hs]
   have:=(pa c (List.mem_cons_of_mem _ hc)).2.1 s hs
   show _<=a.1+b.1
   omega
  ·intro s hs hc'
   rcases List.mem_append.1 hs with hs|hs
   ·exact(pa c (List.mem_cons_of_mem _ hc)).2.2 s hs hc'
   ·exact(pb c hc).2.2 s hs hc'
  ·refine List.Pairwise.imp_of_mem ?_ pr
   intro c c' hc hc' hs;refine⟨fun s x=>?_,fun s x=>?_,hs.2.2⟩
   ·rw[hout c hc s x]
    exact hs.1 s x
   ·rw[hout c' hc' s x]
    exact hs.2.1 s x
 ·have:=h.sum
  simp only[List.map_cons,List.sum_cons]at this ⊢;omega
 ·intro s hs
  have h0:=hs _ (List.mem_cons_self ..);rw[hd,if_neg h0];refine h.o s fun t ht hts=>?_
  rcases List.mem_cons.1 ht with rfl|ht
  ·exact h0 (List.mem_append_left _ hts)
  ·rcases List.mem_cons.1 ht with rfl|ht
   ·exact h0 (List.mem_append_right _ hts)
   ·exact hs t (List.mem_cons_of_mem _ ht) hts
theorem Inv.join {l:List Tree} {d:List Nat} {n:Nat} (h:Inv l d n) (h2:2<=l.length):Inv (join l) (incs (incs d (first l).2) (second l).2) n:=by
 refine Inv.perm (Inv.two (h.perm (two_perm l h2)) fun c hc=>⟨?_,?_⟩) (join_perm l).symm
 ·exact first_min l c ((two_perm l h2).mem_iff.2 (List.mem_cons_of_mem _ (List.mem_cons_of_mem _ hc)))
 ·refine first_min (rest1 l) c ?_
  have hp:=first_perm (rest1 l) (by rw[rest1_length l (by omega)];omega);exact hp.mem_iff.2 (List.mem_cons_of_mem _ hc)
theorem Inv.bound {l:List Tree} {d:List Nat} {n:Nat} (h:Inv l d n) (s:Nat):dep d s=0∨fib (dep d s+2)<=n:=by
 by_cases hs:∀ t∈l,s ∉ t.2
 ·exact .inl (h.o s hs)
 ·refine .inr ?_
  obtain⟨t,ht⟩:∃ t,¬(t∈l->s ∉ t.2):=Classical.not_forall.1 hs;obtain⟨hl,hst⟩:t∈l/\s∈t.2:=⟨Classical.byContradiction fun e=>ht fun h=>absurd h e,Classical.byContradiction fun e=>ht fun _=>e⟩;refine Nat.le_trans (h.own t hl s hst) ?_;rw[<-h.sum];exact le_sum _ _ (List.mem_map.2 ⟨t,hl,rfl⟩)
theorem run_bound (f:Nat):∀ (l:List Tree) (d:List Nat) (n:Nat),Inv l d n->∀ s,dep (run f l d) s=0∨fib (dep (run f l d) s+2)<=n:=by
 induction f with
 |zero=>intro l d n h s;exact h.bound s
 |succ f ih =>
  intro l d n h s;rw[run]
  split
  ·exact h.bound s
  ·exact ih _ _ _ (h.join (by omega)) s
theorem run_length (f:Nat):∀ (l:List Tree) (d:List Nat),(run f l d).length=d.length:=by
 induction f with
 |zero=>intro l d;rfl
 |succ f ih =>
  intro l d;rw[run]
  split
  ·rfl
  ·rw[ih,incs_length,incs_length]
def trees (c:List Nat):Nat->List Tree
 |0=>[]
 |i+1=>if 0<c.getD i 0 then trees c i++[(c.getD i 0,[i])] else trees c i
theorem trees_length (c:List Nat):∀ i,(trees c i).length<=i
 |0=>nl
 |i+1=>by
  rw[trees]
  have:=trees_length c i
  split
  ·rw[List.length_append]
   simp;exact this
  ·omega
theorem trees_mem (c:List Nat):∀ i t,t∈trees c i->∃ j,j<i/\0<c.getD j 0/\t=(c.getD j 0,[j])
 |0,t,h=>absurd h (List.not_mem_nil)
 |i+1,t,h=>by
  rw[trees]at h
  split at h
  ·rcases List.mem_append.1 h with h|h
   ·obtain⟨j,hj,hr⟩:=trees_mem c i t h
    exact⟨j,by omega,hr⟩
   ·exact⟨i,by omega,by assumption,List.mem_singleton.1 h⟩
  ·obtain⟨j,hj,hr⟩:=trees_mem c i t h
   exact⟨j,by omega,hr⟩
def zeros (n:Nat):List Nat:=List.replicate n 0
theorem dep_zeros (n s:Nat):dep (zeros n) s=0:=by
 unfold dep zeros;rw[List.getD_eq_getElem?_getD,List.getElem?_replicate]
 split<;>rfl
theorem sum_take (c:List Nat) (i:Nat) (h:i<c.length):(c.take (i+1)).sum=(c.take i).sum+c.getD i 0:=by
 rw[List.take_add_one,List.getElem?_eq_getElem h,List.sum_append,List.getD_eq_getElem?_getD,List.getElem?_eq_getElem h];simp
theorem trees_inv (c:List Nat):∀ i,i<=c.length->Inv (trees c i) (zeros c.length) (c.take i).sum
 |0,_=>⟨fun t h=>absurd h (List.not_mem_nil),fun t h=>absurd h (List.not_mem_nil),fun t h=>absurd h (List.not_mem_nil),List.Pairwise.nil,rfl,fun s _=>dep_zeros _ _⟩
 |i+1,h=>by
  have ih:=trees_inv c i (by omega);rw[sum_take c i (by omega),trees];by_cases h0:0<c.getD i 0
  ·rw[if_pos h0]
   refine⟨?_,?_,?_,?_,?_,fun s _=>dep_zeros _ _⟩
   ·intro t ht s hs
    rw[dep_zeros];obtain⟨j,_,hj,rfl⟩:=trees_mem c (i+1) t (by rw[trees,if_pos h0];exact ht);exact hj
   ·intro t ht
    obtain⟨j,_,hj,rfl⟩:=trees_mem c (i+1) t (by rw[trees,if_pos h0];exact ht);simp
   ·intro t ht s hs
    obtain⟨j,hji,hj,rfl⟩:=trees_mem c (i+1) t (by rw[trees,if_pos h0];exact ht);rw[List.mem_singleton.1 hs,show (zeros c.length).length=c.length from List.length_replicate ..];omega
   ·refine List.pairwise_append.2 ⟨ih.pw,List.pairwise_singleton _ _,fun t ht u hu=>?_⟩
    obtain⟨j,hji,hj,rfl⟩:=trees_mem c i t ht;rw[List.mem_singleton.1 hu];refine⟨fun s _=>?_,fun s _=>?_,fun s hs hs'=>?_⟩
    ·rw[dep_zeros]
     exact h0
    ·rw[dep_zeros]
     exact hj
    ·have e1:=List.mem_singleton.1 hs
     have e2:=List.mem_singleton.1 hs';omega
   ·rw[List.map_append,List.sum_append,ih.sum]
    simp
  ·rw[if_neg h0,show c.getD i 0=0 by omega]
   exact ih
def depths (c:List Nat):List Nat :=
 if (trees c c.length).length=1 then (zeros c.length).set ((at0 (trees c c.length) 0).2.getD 0 0) 1 else run (trees c c.length).length (trees c c.length) (zeros c.length)
theorem depths_length (c:List Nat):(depths c).length=c.length:=by
 unfold depths
 split
 ·rw[List.length_set]
  exact List.length_replicate ..
 ·rw[run_length]
  exact List.length_replicate ..
theorem depths_bound (c:List Nat) (s:Nat):dep (depths c) s<=1∨fib (dep (depths c) s+2)<=c.sum:=by
 unfold depths
 split
 ·refine .inl ?_
  unfold dep;rw[List.getD_eq_getElem?_getD,List.getElem?_set]
  split
  ·split
   ·exact nl
   ·exact Nat.zero_le _
  ·have:=dep_zeros c.length s
   unfold dep at this;rw[List.getD_eq_getElem?_getD]at this;omega
 ·have h:=trees_inv c c.length nl
  rw[List.take_length]at h
  rcases run_bound (trees c c.length).length _ _ _ h s with h|h
  ·exact .inl (by omega)
  ·exact .inr h
def okay (d:List Nat):Bool:=d.all (fun x=>decide (x<=12))
theorem sum_le (c:List Nat) (m:Nat) (h:∀ x∈c,x<=m):c.sum<=m*c.length:=by
 induction c with
 |nil=>simp
 |cons x c ih =>
  have h1:=ih fun y hy=>h y (List.mem_cons_of_mem _ hy);have h2:=h x (List.mem_cons_self ..);rw[List.sum_cons,List.length_cons,Nat.mul_add];omega
theorem okay_small (c:List Nat) (h:∀ x∈c,x<=2) (hl:c.length<=257):okay (depths c)=true:=by
 unfold okay;rw[List.all_eq_true];intro x hx;obtain⟨j,hj,rfl⟩:=List.getElem_of_mem hx
 have hd:dep (depths c) j=(depths c)[j]:=by
  unfold dep;rw[List.getD_eq_getElem?_getD,List.getElem?_eq_getElem hj];rfl
 have hs:=sum_le c 2 h;rw[<-hd]
 rcases depths_bound c j with h1|h1
 ·exact decide_eq_true (by omega)
 ·refine decide_eq_true (Nat.le_of_not_lt fun h12=>?_)
  have h2:=fib_mono (show 15<=dep (depths c) j+2 by omega);rw[show fib 15=610 from rfl]at h2;omega
def flat (c:List Nat):List Nat:=c.map fun x=>if 0<x then x/2+1 else 0
theorem flat_length (c:List Nat):(flat c).length=c.length:=by
 unfold flat;rw[List.length_map]
theorem flat_le (c:List Nat):(flat c).sum<=c.sum:=by
 unfold flat
 induction c with
 |nil=>exact nl
 |cons x c ih =>
  rw[List.map_cons,List.sum_cons,List.sum_cons]
  split<;>omega
theorem flat_lt (c:List Nat) (h:∃ x∈c,3<=x):(flat c).sum<c.sum:=by
 induction c with
 |nil =>
  obtain⟨x,hx,_⟩:=h
  cases hx
 |cons x c ih =>
  have hle:=flat_le c;unfold flat at hle ih ⊢;rw[List.map_cons,List.sum_cons,List.sum_cons];obtain⟨y,hy,h3⟩:=h
  rcases List.mem_cons.1 hy with rfl|hy
  ·rw[if_pos (by omega)]
   omega
  ·have:=ih ⟨y,hy,h3⟩
   split<;>omega
theorem flat_more (c:List Nat) (hl:c.length<=257) (h:¬okay (depths c)=true):(flat c).sum<c.sum:=by
 refine flat_lt c (Classical.byContradiction fun hn=>h (okay_small c (fun x hx=>?_) hl));refine Nat.le_of_not_lt fun h3=>hn ⟨x,hx,h3⟩
def ofN:Nat->List Nat->List Nat
 |0,c=>depths c
 |f+1,c=>if okay (depths c)=true then depths c else ofN f (flat c)
theorem ofN_more (f:Nat):∀ (c:List Nat) (g:Nat),c.length<=257->c.sum<=f->c.sum<=g->ofN f c=ofN g c:=by
 induction f with
 |zero =>
  intro c g hl hf _
  have hz:okay (depths c)=true:=Classical.byContradiction fun h=>by
   have:=flat_more c hl h
   omega
  cases g with
  |zero=>rfl
  |succ g=>rw[ofN,ofN,if_pos hz]
 |succ f ih =>
  intro c g hl hf hg;rw[ofN];by_cases h:okay (depths c)=true
  ·rw[if_pos h]
   cases g with
   |zero=>rfl
   |succ g=>rw[ofN,if_pos h]
  ·have hlt:=flat_more c hl h
   rw[if_neg h]
   cases g with
   |zero=>omega
   |succ g =>
    rw[ofN,if_neg h];exact ih (flat c) g (by rw[flat_length];exact hl) (by omega) (by omega)
def lenOf (c:List Nat):List Nat:=ofN c.sum c
theorem lenOf_yes (c:List Nat) (h:okay (depths c)=true):lenOf c=depths c:=by
 unfold lenOf
 cases c.sum with
 |zero=>rfl
 |succ f=>rw[ofN,if_pos h]
theorem lenOf_no (c:List Nat) (hl:c.length<=257) (h:¬okay (depths c)=true):lenOf c=lenOf (flat c):=by
 have hlt:=flat_more c hl h;unfold lenOf;obtain⟨f,hf⟩:∃ f,c.sum=f+1:=⟨c.sum-1,by omega⟩;rw[hf,ofN,if_neg h];exact ofN_more f (flat c) _ (by rw[flat_length];exact hl) (by omega) nl
theorem hideH {p:Prop} (h:p):Hid p:=h
abbrev MT:=Tree × Value
def cells:List MT->List Value
 |[]=>[]
 |x :: m=>.int .i64 (x.1.1:Nat) :: x.2 :: cells m
theorem cells_length:∀ m:List MT,(cells m).length=m.length*2
 |[]=>rfl
 |x :: m=>by
  rw[cells,List.length_cons,List.length_cons,cells_length m,List.length_cons];omega
theorem cells_append:∀ m k:List MT,cells (m++k)=cells m++cells k
 |[],k=>rfl
 |x :: m,k=>by
  rw[List.cons_append,cells,cells,cells_append m k];rfl
theorem cells_at:∀ (m:List MT) (i:Nat) (h:i<m.length),(cells m)[i*2]? = some (.int .i64 (m[i].1.1:Nat))/\(cells m)[i*2+1]? = some m[i].2
 |x :: m,0,_=>⟨rfl,rfl⟩
 |x :: m,i+1,h=>by
  have:=cells_at m i (Nat.lt_of_succ_lt_succ h)
  rw[cells,show (i+1)*2=i*2+2 by omega,show i*2+2+1=(i*2+1)+2 by omega];exact this
def Sym (W:World) (v:Value) (s:List Nat):Prop :=
 ∃ g cap cur,v=.slice (some ⟨g,0,none⟩) s.length cap/\W.heap[g]? = some (.cells cur 3 (0,0))/\s.length<=cap/\∀ j (h:j<s.length),cur[j]? = some (.int .i64 (s[j]:Nat))
def Keeps (W W':World):Prop:=∀ (g:Nat) (cur:Array Value),W.heap[g]? = some (.cells cur 3 (0,0))->W'.heap[g]? = some (.cells cur 3 (0,0))
theorem Keeps.trans {W W' W'':World} (h:Keeps W W') (k:Keeps W' W''):Keeps W W'':=fun g cur e=>k g cur (h g cur e)
theorem lt_row {w:World} {g:Nat} {o:Obj} (h:w.heap[g]? = some o):g<w.heap.size:=(Array.getElem?_eq_some_iff.1 h).1
theorem Keeps.below {W W':World} (h:Below W.heap.size W W'):Keeps W W':=fun g _ e=>(h.block g (lt_row e)).trans e
theorem Keeps.set {W:World} {g:Nat} {cs:Array Value} {e:TypeId} (hg:W.heap[g]? = some (.cells cs e (0,0))) (he:e≠3) (i:Nat) (v:Value):Keeps W (W.setCell ⟨g,i,none⟩ v):=fun k cur h=>by
 rw[heap_setCell_other W _ k v (by
  rintro rfl;rw[hg]at h;simp at h
  exact he h.2)]
 exact h
theorem Sym.keeps {W W':World} {v:Value} {s:List Nat} (h:Sym W v s) (k:Keeps W W'):Sym W' v s:=by
 obtain⟨g,cap,cur,hv,hg,hc⟩:=h;exact⟨g,cap,cur,hv,k g cur hg,hc⟩
def OwnT (W:World) (e:TypeId) (base:Nat) (v:Value) (m:List MT):Prop:=W.ownsRow base e 2 v m.length (cells m)
def Syms (W:World) (m:List MT):Prop:=∀ x∈m,Sym W x.2 x.1.2
theorem Syms.keeps {W W':World} {m:List MT} (h:Syms W m) (k:Keeps W W'):Syms W' m:=fun x hx=>(h x hx).keeps k
theorem row_at {W:World} {e:TypeId} {g:Nat} {cur:Array Value} {m:List MT} (hb:W.heap[g]? = some (.cells cur e (0,0))) (ht:cur.toList.take (m.length*2)=cells m) (i:Nat) (hi:i<m.length) :
  W.cell? ⟨g,i*2,none⟩=some (.int .i64 (m[i].1.1:Nat))/\W.cell? ⟨g,i*2+1,none⟩=some m[i].2:=by
 have hc:=cells_at m i hi;rw[<-ht]at hc;rw[List.getElem?_take_of_lt (by omega),List.getElem?_take_of_lt (by omega),Array.getElem?_toList,Array.getElem?_toList]at hc;exact⟨(cell_of_row W g _ _ _ _ hb).trans hc.1,(cell_of_row W g _ _ _ _ hb).trans hc.2⟩
def mt (m:List MT):List Tree:=m.map (·.1)
theorem mt_length (m:List MT):(mt m).length=m.length:=List.length_map ..
theorem wt_mt (m:List MT) (i:Nat) (h:i<m.length):wt (mt m) i=m[i].1.1:=by
 unfold wt mt;rw[List.getD_eq_getElem?_getD,List.getElem?_map,List.getElem?_eq_getElem h];rfl
def lays (cur:Array Value):Nat->List Value->Array Value
 |_,[]=>cur
 |o,v :: r=>lays (cur.setIfInBounds o v) (o+1) r
theorem lays_size:∀ (vs:List Value) (o:Nat) (cur:Array Value),(lays cur o vs).size=cur.size
 |[],_,_=>rfl
 |v :: r,o,cur=>by rw[lays,lays_size r,Array.size_setIfInBounds]
theorem lays_heap (g:Nat) (t:TypeId):∀ (vs:List Value) (o:Nat) (cur:Array Value) (w:World),w.heap[g]? = some (.cells cur t (0,0))->(w.setCells g o vs).heap[g]? = some (.cells (lays cur o vs) t (0,0))
 |[],_,_,_,h=>h
 |v :: r,o,_,w,h=>lays_heap g t r (o+1) _ _ (heap_setCell_same w g o _ _ v h)
theorem lays_list:∀ (vs:List Value) (o:Nat) (cur:Array Value),o+vs.length<=cur.size->(lays cur o vs).toList=cur.toList.take o++vs++cur.toList.drop (o+vs.length)
 |[],o,cur,_=>by
  rw[lays,List.append_nil,List.length_nil,Nat.add_zero,List.take_append_drop]
 |v :: r,o,cur,h=>by
  rw[List.length_cons]at h;rw[lays,lays_list r (o+1) _ (by rw[Array.size_setIfInBounds];omega),Array.toList_setIfInBounds,List.length_cons]
  have h1:(cur.toList.set o v).take (o+1)=cur.toList.take o++[v]:=by
   rw[List.take_add_one,List.take_set_of_le nl,List.getElem?_set_self (by rw[Array.length_toList];omega)];rfl
  rw[h1,List.drop_set_of_lt (by omega),show o+1+r.length=o+(r.length+1) by omega,List.append_assoc,List.append_assoc,List.append_assoc];rfl
theorem cells_take:∀ (m:List MT) (i:Nat),cells (m.take i)=(cells m).take (i*2)
 |[],i=>by simp[cells]
 |x :: m,0=>by simp[cells]
 |x :: m,i+1=>by
  rw[List.take_succ_cons,cells,cells,cells_take m i,show (i+1)*2=i*2+1+1 by omega,List.take_succ_cons,List.take_succ_cons]
theorem cells_drop:∀ (m:List MT) (i:Nat),cells (m.drop i)=(cells m).drop (i*2)
 |[],i=>by simp[cells]
 |x :: m,0=>by simp
 |x :: m,i+1=>by
  rw[List.drop_succ_cons,cells,cells_drop m i,show (i+1)*2=i*2+1+1 by omega,List.drop_succ_cons,List.drop_succ_cons]
theorem cells_one (m:List MT) (h:∀ x∈m,x.2.oneCell'=true):∀ u∈cells m,u.oneCell'=true:=by
 induction m with
 |nil=>intro u hu;cases hu
 |cons x m ih =>
  intro u hu;rw[cells]at hu
  rcases List.mem_cons.1 hu with rfl|hu
  ·rfl
  ·rcases List.mem_cons.1 hu with rfl|hu
   ·exact h x (List.mem_cons_self ..)
   ·exact ih (fun y hy=>h y (List.mem_cons_of_mem _ hy)) u hu
theorem gone_list (cur:Array Value) (m:List MT) (n cap i:Nat) (hn:m.length=n) (hi:i<n) (hc:n<=cap) (hs:cur.size=cap*2) (ht:cur.toList.take (n*2)=cells m) (x y:Value) :
  (lays (lays cur (i*2) (cells (m.drop (i+1)))) ((n-1)*2) [x,y]).toList.take ((m.eraseIdx i).length*2)=cells (m.eraseIdx i):=by
 have hl:(cells (m.drop (i+1))).length=(n-(i+1))*2:=by rw[cells_length,List.length_drop,hn]
 have he:(m.eraseIdx i).length=n-1:=by rw[List.length_eraseIdx,if_pos (by omega),hn]
 have h1:cur.toList.take (i*2)=cells (m.take i):=by
  rw[cells_take,<-ht,List.take_take,Nat.min_eq_left (by omega)]
 rw[he,lays_list _ _ _ (by rw[lays_size,List.length_cons,List.length_cons,List.length_nil,hs];omega),List.append_assoc,List.take_append_of_le_length (by rw[List.length_take,Array.length_toList,lays_size,hs];omega),List.take_take,Nat.min_self,lays_list _ _ _ (by rw[hl,hs];omega),h1]
 have hl1:(cells (m.take i)).length=i*2:=by rw[cells_length,List.length_take,hn];omega
 rw[List.take_append_of_le_length (by rw[List.length_append,hl1,hl];omega),List.take_of_length_le (by rw[List.length_append,hl1,hl];omega),<-cells_append,<-List.eraseIdx_eq_take_drop_succ]
theorem Tryz.infoTree:(prog.info? 204).map (fun i=>(i.zero,i.size,i.bytes))=some (some (.agg #[.int .i64 0,.slice none 0 0]),2,32):=by kernel_rfl
theorem clear_one (w:World) (t e ty:TypeId) (ht:prog.underlying t=some (.slice e)) (hv:∀ w,(zeroValue e).run prog w=.ok (.agg #[.int .i64 0,.slice none 0 0]) w) (b o c:Nat)
  (hc:∀ j,j<2->(w.cell? ⟨b,o+j,none⟩).isSome=true) (hf:∀ j,j<2->w.frozen? ⟨b,o+j,none⟩=false) :
  (Builtin.clear_ #[t] ty #[.slice (some ⟨b,o,none⟩) 1 c]).run prog w=.ok (.tuple #[]) (w.setCells b o [.int .i64 0,.slice none 0 0]):=by
 have hzc:(Builtin.zeroCells (Value.agg #[.int .i64 0,.slice none 0 0]).cells 1).toList=[.int .i64 0,.slice none 0 0]:=by kernel_rfl
 have hst:=run_storeCells_cells (P:=prog) b o [.int .i64 0,.slice none 0 0] 0 w (by simpa using hc) (by simpa using hf) (by intro v hv';simp at hv';rcases hv' with rfl|rfl<;>rfl);simp only[Nat.add_zero]at hst;simp[Builtin.clear_,run_underlying ht,hv,hzc,hst]
theorem zero_tree (w:World):(zeroValue 204).run prog w=.ok (.agg #[.int .i64 0,.slice none 0 0]) w:=by
 simp[zeroValue,go_sem];rfl
theorem delete_any (g k cap i:Nat) (m:List MT) (cur:Array Value) (w:World) (hn:m.length=k+1) (hi:i<=k) (hc:k+1<=cap) (h257:k<=257) (hb:w.heap[g]? = some (.cells cur 204 (0,0))) (hs:cur.size=cap*2) (ht:cur.toList.take ((k+1)*2)=cells m) (h1:∀ x∈m,x.2.oneCell'=true) :
  Calls prog 192 #[.slice (some ⟨g,0,none⟩) (k+1) cap,.int .i64 i,.int .i64 ((i:Int)+1)] w fun e w'=>e=.returned (.slice (some ⟨g,0,none⟩) k cap)/\w'=(w.drew.setCells g (0+i*2) (cells (m.drop (i+1)))).setCells g (k*2) [.int .i64 0,.slice none 0 0]:=by
 obtain⟨i0,hi0,hz0,hz1,hz2⟩:=info_parts Tryz.infoTree
 have hic:i<=cap:=by omega
 have hjc:i+1<=cap:=by omega
 have g1:(i:Int)+1<=(k:Int)+1:=by omega
 have g2:(i:Int)+1<=cap:=by omega
 have g3:(k:Int)+1<=cap:=by omega
 have g4:((i:Int)==(i:Int)+1)=false:=by simp;omega
 have g5:(0:Int)<=(i:Int)+1:=by omega
 have hL:i+(k-i)=k:=by omega
 have hlen:(cells (m.drop (i+1))).length=(k-i)*2:=by rw[cells_length,List.length_drop,hn];omega
 obtain⟨A,hA,hsrc⟩:∃ A:Addr,(if cap=i+1 then some (⟨g,0,none⟩:Addr) else some ⟨g,(i+1)*2,none⟩)=some A/\Hid (∀ t u,(cells (m.drop (i+1)))[t]? = some u->w.drew.cell? (A.add t)=some u):=by
  by_cases h:cap=i+1
  ·refine⟨⟨g,0,none⟩,by simp[h],fun t u hu=>?_⟩
   have h0:(cells (m.drop (i+1))).length=0:=by rw[hlen];omega
   rw[List.length_eq_zero_iff.1 h0]at hu;simp at hu
  ·refine⟨⟨g,(i+1)*2,none⟩,by simp[h],fun t u hu=>?_⟩
   have ht':t<(k-i)*2:=by
    have:=(List.getElem?_eq_some_iff.1 hu).1
    rwa[hlen]at this
   rw[Addr.add_lit];refine(cell_of_row w g _ _ _ _ hb).trans ?_;rw[cells_drop,List.getElem?_drop,<-ht,List.getElem?_take_of_lt (by omega),Array.getElem?_toList]at hu;exact hu
 have s1:Hid ((cells (m.drop (i+1))).length=(k-i)*2):=hlen;have s2:Hid (∀ u∈cells (m.drop (i+1)),u.oneCell'=true):=cells_one _ fun x hx=>h1 x (List.mem_of_mem_drop hx)
 have hcz:∀ j,j<cap*2->(w.cell? ⟨g,j,none⟩).isSome=true:=fun j hj=>by
  rw[cell_of_row w g j _ _ _ hb,Array.getElem?_eq_getElem (by omega)];rfl
 have s3:Hid (∀ t,t<(cells (m.drop (i+1))).length->(w.drew.cell? ⟨g,0+i*2+t,none⟩).isSome=true/\w.drew.frozen? ⟨g,0+i*2+t,none⟩=false):=fun t ht'=>by
  rw[hlen]at ht';exact⟨hcz _ (by omega),frozen_of_row w g _ _ _ hb⟩
 obtain⟨W1,hW1⟩:∃ W1,W1=w.drew.setCells g (0+i*2) (cells (m.drop (i+1))):=⟨_,rfl⟩
 have hb1:W1.heap[g]? = some (.cells (lays cur (0+i*2) (cells (m.drop (i+1)))) 204 (0,0)):=by
  rw[hW1];exact lays_heap g _ _ _ _ _ hb
 have hcl:∀ ty,(Builtin.clear_ #[200] ty #[.slice (some ⟨g,k*2,none⟩) 1 (cap-k)]).run prog W1=.ok (.tuple #[]) (W1.setCells g (k*2) [.int .i64 0,.slice none 0 0]):=fun ty =>
  clear_one W1 _ _ ty underlying200 zero_tree g _ _ (fun j hj=>by
   rw[cell_of_row W1 g _ _ _ _ hb1,Array.getElem?_eq_getElem (by rw[lays_size];omega)]
   rfl) (fun j hj=>frozen_of_row W1 g _ _ _ hb1)
 have hW:Hid (W1=w.drew.setCells g (0+i*2) (cells (m.drop (i+1)))):=hW1;rw[<-hW1];generalize cells (m.drop (i+1))=news at hsrc s1 s2 s3 hW;clear hlen hb1 hcz hb ht hs hW1;go_enter func192,ntmps192
 go_wp2_with fail
 go_region_law (refine step_append_room rfl (.tmp 22) (.tmp 25) 200 rfl 204 i0 2 underlying200 hi0 hz1 g 0 i cap (by simp[Act.eval,Act.put]) A (k-i) (cap-(i+1)) news (by simp[Act.eval,Act.put]) s1.o hsrc.o s2.o (by omega) s3.o ?_;rw[<-hW.o])
 go_wp2_with fail
 go_ret;exact⟨rfl,rfl⟩
end Hf
namespace In
end In
namespace In
open St (Aft)
def OwnIn (w:World) (lo hi:Nat) (v:Value) (l:List Int):Prop :=
 (v=.slice none 0 0/\l=[])∨∃ g cap,v=.slice (some ⟨g,0,none⟩) l.length cap/\lo<=g/\g<hi/\IsO w g 2 l
theorem OwnIn.ints {w:World} {lo hi:Nat} {v:Value} {l:List Int} (h:OwnIn w lo hi v l):∃ a cap,v=.slice a l.length cap/\Ints w hi a l:=by
 rcases h with⟨rfl,rfl⟩|⟨g,cap,rfl,_,hh,ho⟩
 ·exact⟨none,0,rfl,.inl rfl⟩
 ·exact⟨_,cap,rfl,ho.ints hh⟩
def IntMarked (w:World) (lo hi:Nat) (v:Value) (n:Nat):Prop:=OwnIn w lo hi v (marks 1 n)
end In
namespace St
def dg (k:Nat) (o:ByteArray):ByteArray:=if _h:k=0 then o else dg (k/10) (⟨#[UInt8.ofNat (48+k%10)]⟩++o)
termination_by k
decreasing_by omega
def markT (k:Nat):ByteArray:=⟨#[109]⟩++dg k ⟨#[]⟩
def marks (k n:Nat):List ByteArray:=(List.range n).map fun j=>markT (k+j)
def mmid (l:List ByteArray) (k i:Nat):List ByteArray:=marks k i++l.drop i
end St
namespace Ze
theorem zeros_list (m:Nat):(Builtin.zeroCells (Value.int .i64 0).cells m)=(List.replicate m (Value.int .i64 0)).toArray:=by
 apply Array.ext'
 apply List.ext_getElem
 ·simp[Builtin.zeroCells,Value.cells]
 ·intro i h1 h2
  simp[Builtin.zeroCells,Value.cells,Nat.mod_one]
theorem one_zeros (m:Nat):∀ u∈List.replicate m (Value.int .i64 0),u.oneCell'=true:=by
 intro u hu;rw[(List.mem_replicate.1 hu).2];rfl
theorem run_append_zeros {P:Program} (w:World) (base:Nat) (t ti ty e:TypeId) (i:TypeInfo) (ht:P.underlying t=some (.slice e)) (hti:P.underlying ti=some (.int .i64)) (hi:P.info? e=some i) (hz:i.zero=some (.int .i64 0))
  (hsize:i.size=1) (hby:i.bytes=8)
  (v:Value) (n:Nat) (xs:List Value) (hown:w.ownsRow base e 1 v n xs) (m:Nat) (hs:n+m<=1048576) (hbase:base<=w.heap.size) :
  ∃ v' w',(Builtin.append_ #[t,ti] ty #[v,.int .i64 m]).run P w=.ok v' w'/\w'.ownsRow base e 1 v' (n+m) (xs++List.replicate m (.int .i64 0))/\w.grownBy w' v.ownBlock:=by
 have hlen:(xs++List.replicate m (Value.int .i64 0)).length=(n+m)*1:=by rw[List.length_append,hown.1,List.length_replicate];omega
 have hwrap:IntKind.i64.wrap (m:Int)=m:=by
  simp[IntKind.wrap,IntKind.bits,IntKind.signed];omega
 have hwrap0:IntKind.i64.wrap 0=0:=by simp[IntKind.wrap,IntKind.bits,IntKind.signed]
 have h0:¬((m:Int)<0):=by omega
 have h1:¬((m:Int)*((8:Nat):Int) > 2 ^ 48):=by omega
 have grown:∀ (old:Nat),old<n+m->∀ (row:Option Nat),
   (w.drew.alloc (.cells (xs.toArray++(List.replicate m (Value.int .i64 0)).toArray++Builtin.zeroCells (Value.int .i64 0).cells (grownCap w (n+m) old e-(n+m))) e)).ownsRow base e 1
    (.slice (some ⟨w.heap.size,0,none⟩) (n+m) (grownCap w (n+m) old e)) (n+m) (xs++List.replicate m (Value.int .i64 0)) /\
   w.grownBy (w.drew.alloc (.cells (xs.toArray++(List.replicate m (Value.int .i64 0)).toArray++Builtin.zeroCells (Value.int .i64 0).cells (grownCap w (n+m) old e-(n+m))) e)) row:=by
  intro old ho row;have hge:=grownCap_ge w (n+m) old e;have hcm:grownCap w (n+m) old e<=maxLen:=grownCap_le_maxLen w (n+m) old e (by unfold maxLen;omega);refine⟨⟨hlen,.inr ⟨w.heap.size,_,_,rfl,hbase,heap_alloc_new w.drew _,hge,hcm,?_,?_⟩⟩,⟨rfl,rfl,rfl,by simp,fun k hk _=>heap_alloc_old w.drew _ hk⟩⟩
  ·have h2:=hown.1
   simp only[Array.size_append,List.size_toArray,size_zeroCells,List.length_replicate,Value.cells,List.size_toArray,List.length_cons,List.length_nil];omega
  ·simp only[Array.toList_append,List.append_assoc]
   rw[<-List.append_assoc,<-hlen];exact List.take_left
 have hnew:∀ W:World,(if m*1=0 then (pure #[]:Sem (Array Value)) else do pure (Builtin.zeroCells (<-zeroValue e).cells m)).run P W=.ok (List.replicate m (Value.int .i64 0)).toArray W:=by
  intro W;by_cases hm:m=0
  ·subst hm
   simp
  ·rw[if_neg (by omega)]
   simp[zeroValue,typeInfo,hi,hz,zeros_list]
 rcases hown.2 with⟨rfl,rfl⟩|⟨g,cap,cur,rfl,hbg,hg,hnc,hcm,hcs,htake⟩
 ·have hx:xs=[]:=List.eq_nil_of_length_eq_zero (by simpa using hown.1)
  subst hx;by_cases hm:m=0
  ·subst hm
   refine⟨.slice none 0 0,w,?_,World.ownsRow_nil w base e 1,⟨rfl,rfl,rfl,nl,fun _ _ _=>rfl⟩⟩;simp[Builtin.append_,run_underlying ht,run_underlying hti,sizeOf,typeInfo,hi,hby,asInt,asIntOf,hwrap0]
  ·have hgr:=grown 0 (by omega) (Value.ownBlock (.slice none 0 0))
   simp only[Nat.zero_add,List.nil_append,Array.empty_append]at hgr ⊢;refine⟨_,_,?_,hgr.1,hgr.2⟩
   have hnc:¬(281474976710656<Builtin.nextslicecap m 0*8):=by rw[nextslicecap_zero (by omega)];omega
   have h63':¬(9223372036854775807<(m:Int)):=by omega
   have hq:¬(281474976710656<(m:Int)*8):=by omega
   simp[Builtin.append_,run_underlying ht,run_underlying hti,sizeOf,typeInfo,zeroValue,hi,hz,hsize,hby,asInt,asIntOf,hwrap,h0,hq,hm,h63',hnc,Question.forced,run_firstCells_none,newRow,grownCap,zeros_list]
 ·by_cases hroom:n+m<=cap
  ·have hfit:n*1+(List.replicate m (Value.int .i64 0)).length<=cur.size:=by rw[List.length_replicate,hcs];omega
   have hst:=run_storeCells_at P g (n*1) e (List.replicate m (Value.int .i64 0)) 0 cur w hg (by simpa using hfit) (one_zeros m);simp only[Nat.add_zero]at hst
   have hq:¬(281474976710656<(m:Int)*8):=by omega
   refine⟨.slice (some ⟨g,0,none⟩) (n+m) cap,w.setRow g (cur.toList.take (n*1)++List.replicate m (Value.int .i64 0)++cur.toList.drop (n*1+(List.replicate m (Value.int .i64 0)).length)).toArray,?_,⟨hlen,.inr ⟨g,cap,_,rfl,hbg,setRow_heap w g cur _ e _ hg,hroom,hcm,?_,?_⟩⟩,⟨rfl,rfl,rfl,by simp,fun k _ hk=>setRow_other w g k _ (fun e=>hk (by simp[Value.ownBlock,e]))⟩⟩
   ·by_cases hm:m=0
    ·subst hm
     simp at hst;simp[Builtin.append_,run_underlying ht,run_underlying hti,sizeOf,typeInfo,zeroValue,hi,hsize,hby,asInt,asIntOf,hnc,Addr.add_lit,hwrap0,hst]
    ·simp at hst
     simp[Builtin.append_,run_underlying ht,run_underlying hti,sizeOf,typeInfo,zeroValue,hi,hz,hsize,hby,asInt,asIntOf,hwrap,h0,hq,hm,hroom,Addr.add_lit,zeros_list,hst]
   ·simp only[List.size_toArray,List.length_append,List.length_take,List.length_drop,Array.length_toList,List.length_replicate]
    omega
   ·rw[htake,<-hlen]
    exact List.take_left
  ·have holds:∀ j u,xs[j]? = some u->w.cell? ((⟨g,0,none⟩:Addr).add j)=some u:=hown.cells (g:=g) rfl
   have hm:m≠0:=by omega
   have hgr:=grown cap (by omega) (Value.ownBlock (.slice (some ⟨g,0,none⟩) n cap));refine⟨_,_,?_,hgr.1,hgr.2⟩;have hfo:=run_firstCells_some (P:=P) w.drew 1 n ⟨g,0,none⟩ n cap xs hown.1 (by simpa using holds)
   have hn:¬(n+m<=cap):=by omega
   have h63':¬(9223372036854775807<((n:Int)+(m:Int))):=by omega
   have hfits:Builtin.nextslicecap (n+m) cap*8<=281474976710656:=growslice_fits (by omega) (by omega)
   have h48':¬(281474976710656<Builtin.nextslicecap (n+m) cap*8):=by omega
   have hq:¬(281474976710656<(m:Int)*8):=by omega
   simp[Builtin.append_,run_underlying ht,run_underlying hti,sizeOf,typeInfo,zeroValue,hi,hz,hsize,hby,asInt,asIntOf,hwrap,h0,hq,hm,hn,h63',h48',Question.forced,hfo,newRow,grownCap,zeros_list]
theorem wpList_append_zeros {P:Program} (w:World) {ops:Array Oper} {rest:List Oper} {o:Oper} {a:Act} {Q:Exit->Act->World->Prop} (hgd:o.guard=none) (s x:Operand) (t ti:TypeId)
  (ho:o.op=.call { callee:=.builtin .append,args:=#[s,x],argTypes:=#[t,ti] })
  (base:Nat) (e:TypeId) (i:TypeInfo) (ht:P.underlying t=some (.slice e)) (hti:P.underlying ti=some (.int .i64)) (hi:P.info? e=some i) (hz:i.zero=some (.int .i64 0)) (hsize:i.size=1) (hby:i.bytes=8)
  (v:Value) (n:Nat) (xs:List Value) (hv:a.eval s=v) (hown:w.ownsRow base e 1 v n xs) (m:Nat) (hx:a.eval x=.int .i64 m) (hs:n+m<=1048576) (hbase:base<=w.heap.size)
  (h:∀ v' w',w'.ownsRow base e 1 v' (n+m) (xs++List.replicate m (.int .i64 0))->w.grownBy w' v.ownBlock->wpList P ops Q rest (a.put o.dst v') w'):wpList P ops Q (o :: rest) a w :=
 wpList_plain hgd fun _ hK=>by
  obtain⟨v',w',hr,h2,h3⟩:=run_append_zeros (P:=P) w base t ti o.type e i ht hti hi hz hsize hby v n xs hown m hs hbase;unfold Oper.wp execOp;simp only[ho,resolve,invoke,builtin,Sem.run_bind,Sem.run_pure,Result.andThen_ok,List.map_toArray,List.map_cons,List.map_nil,hv,hx,hr];exact hK _ _ (h v' w' h2 h3)
end Ze
namespace Sh
theorem still_lit {P:Program} {id:Nat} {Q:Exit->Act->World->Prop} {a:Act} {w:World} {l:List Oper} (hm:P.follows .mixedOrders=true) (hB:Region.lexB .any l.toArray=true)
  (h:wpStill P l.toArray w.drew (fun a'=>Q .normal a' w.drew) l a):(Code.region id l.toArray true).wp P Q a w :=
 wp_region_still_lit hm hB h
theorem still_tail {P:Program} {id:Nat} {Q:Exit->Act->World->Prop} {a:Act} {w:World} {l:List Oper} (n:Nat) (hm:P.follows .mixedOrders=true) (hB:Region.lexTailB .any l.toArray n=true)
  (h:wpStill P l.toArray w.drew (fun a'=>wpList P l.toArray Q (l.drop n) a' w.drew) (l.take n) a):(Code.region id l.toArray true).wp P Q a w :=
 wp_region_still_tail n hm hB h
end Sh
end Go.Proofs.YtbdcffjcogglbaaGreatDoor
