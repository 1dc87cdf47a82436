import Derived.Test.YtaejgfdkfcmjeaaGreatDoorMz23
import Derived.StillTailTactics
import Derived.Test.YtaejgfdkfcmjeaaGreatDoorMz10
import Derived.Test.YtaejgfdkfcmjeaaGreatDoorProg
import Derived.Laws.OwnMore
import Derived.Deep.RegionLaw
import Derived.Lib.SliceRun
import Derived.Deep.Upon
import Derived.Test.YtaejgfdkfcmjeaaGreatDoorMz14
import Derived.StillTail
import Derived.OrdersIn
import Derived.CallsIn
import Derived.OwnWalkIn
import Derived.TacticsInMore
import Derived.RangeFuncNested
import Derived.RangeFuncBound
import Derived.RangeFuncCalls
import Derived.RangeFuncLeaves
import Derived.RangeFuncBox
import Derived.Shelf.Abstract
import Derived.Shelf.RegionOpen
import Derived.LoopNIn
import Derived.LoopIn
import Derived.Maps.AppendAt
import Derived.Stop.RegionWithIn
set_option maxRecDepth 100000
set_option maxHeartbeats 8000000
namespace Go.Proofs.YtaejgfdkfcmjeaaGreatDoor
open Go.RowKit
open Go.Proofs.Tryz
namespace Sh
def chunks (m:Nat):Nat:=(m+72)/64
def padK (t:ByteArray) (k j:Nat):Nat :=
 if j<t.size then bt t j else if j=t.size then 128 else if chunks t.size*64<=j+k then t.size*8/2 ^ (8*(chunks t.size*64-1-j))%256 else 0
def pad (t:ByteArray) (j:Nat):Nat:=padK t 8 j
theorem padK_lt (t:ByteArray) (k j:Nat):padK t k j<256:=by
 unfold padK
 have:=bt_lt t j
 split
 ·exact this
 ·split
  ·decide
  ·split
   ·exact Nat.mod_lt _ (by decide)
   ·decide
theorem pad_lt (t:ByteArray) (j:Nat):pad t j<256:=padK_lt t 8 j
theorem chunks_room (m:Nat):m+9<=chunks m*64:=by unfold chunks;omega
theorem chunks_tight (m:Nat):chunks m*64<=m+72:=by unfold chunks;omega
theorem pad_start (t:ByteArray) (j:Nat):j<chunks t.size*64->upd (fun j=>if j<t.size then ((bt t j:Nat):Int) else 0) t.size 128 j=((padK t 0 j:Nat):Int):=by
 intro hj;unfold upd padK;by_cases e:j=t.size
 ·subst e;simp
 ·by_cases h:j<t.size
  ·simp[e,h]
  ·have:¬chunks t.size*64<=j:=by omega
   simp[e,h,this]
theorem pad_next (t:ByteArray) (k:Nat) (hk:k<8) (v:Int) (hv:v=((t.size*8/2 ^ (8*k)%256:Nat):Int)) (j:Nat) (hj:j<chunks t.size*64) :
  upd (fun j=>((padK t k j:Nat):Int)) (chunks t.size*64-1-k) v j=((padK t (k+1) j:Nat):Int):=by
 subst hv;have hr:=chunks_room t.size;unfold upd padK;by_cases e:j=chunks t.size*64-1-k
 ·have h1:¬j<t.size:=by omega
  have h2:¬j=t.size:=by omega
  have h3:chunks t.size*64<=j+(k+1):=by omega
  have h4:chunks t.size*64-1-j=k:=by omega
  rw[if_pos e,if_neg h1,if_neg h2,if_pos h3,h4]
 ·rw[if_neg e]
  have:(chunks t.size*64<=j+(k+1))=(chunks t.size*64<=j+k):=propext ⟨fun h=>by omega,fun h=>by omega⟩
  simp only[this]
def blkB (t:ByteArray) (k j:Nat):Nat:=pad t (64*k+j)
theorem blkB_lt (t:ByteArray) (k j:Nat):blkB t k j<256:=pad_lt t _
def shaS (t:ByteArray):Nat->Nat->Int
 |0=>firstF
 |k+1=>blk (blkB t k) (shaS t k)
def outF (s:Nat->Int) (j:Nat):Nat:=(s (j/4)/2 ^ (24-8*(j%4))%256).toNat
theorem outF_lt (s:Nat->Int) (j:Nat):outF s j<256:=by unfold outF;omega
def sha (t:ByteArray):ByteArray:=strF 32 (outF (shaS t (chunks t.size)))
theorem sha_size (t:ByteArray):(sha t).size=32:=strF_size 32 _
def outK (s:Nat->Int) (m j:Nat):Nat:=if j<m then outF s j else 0
theorem outK_next (s:Nat->Int) (m j:Nat) (v:Int) (hv:v=((outF s m:Nat):Int)):upd (fun j=>((outK s m j:Nat):Int)) m v j=((outK s (m+1) j:Nat):Int):=by
 subst hv;unfold upd outK;by_cases e:j=m
 ·subst e;simp
 ·have:(j<m+1)=(j<m):=propext ⟨fun h=>by omega,fun h=>by omega⟩
  simp[e,this]
theorem outK_all (s:Nat->Int):strF 32 (outK s 32)=strF 32 (outF s):=strF_congr 32 _ _ (fun j hj=>by simp[outK,hj])
theorem outK_lt (s:Nat->Int) (m j:Nat):outK s m j<256:=by
 unfold outK
 split
 ·exact outF_lt s j
 ·decide
theorem outF_cast (s:Nat->Int) (m:Nat):s (m/4)/2 ^ (24-8*(m%4))%256=((outF s m:Nat):Int):=by
 unfold outF;rw[Int.toNat_of_nonneg];omega
theorem wpStill_load_row {P:Program} {w:World} {ops:Array Oper} {rest:List Oper} {a:Act} {Q:Act->Prop} {d:Tmp} {p:Operand} {ty tt:TypeId} {pos:String} {af:Array Edge}
  {g:Nat} {t:TypeId} {k:IntKind} {n:Nat} {f:Nat->Int} {e:TypeId} (hb:IsB w g t k n f) (hu:P.underlying ty=some (.array n e)) (hi:(P.info? ty).map (·.size)=some n)
  (hp:a.eval p=.pointer (some ⟨g,0,none⟩)) (h:wpStill P ops w Q rest (a.put (some d) (.agg (rowF k n f)))) :
  wpStill P ops w Q (⟨some d,.load ty p,tt,pos,af,none⟩ :: rest) a:=by
 refine wpStill_step fun K hK=>?_;have hl:=hb.loadAt (P:=P) ty e hu hi;simp[Region.wanted,Oper.still,Oper.stillUpon,execOp,hp,hl,Result.andThen];exact hK _ h
end Sh
namespace In
def Ints (w:World) (B:Nat) (a:Option Addr) (l:List Int):Prop :=
 l=[]∨∃ b off,a=some ⟨b,off,none⟩/\b<B/\∀ j (h:j<l.length),w.cell? ⟨b,off+j,none⟩=some (.int .i64 l[j])
theorem Ints.below {w w':World} {B:Nat} {a:Option Addr} {l:List Int} (h:Ints w B a l) (hb:Below B w w'):Ints w' B a l:=by
 rcases h with h0|⟨b,off,rfl,hlt,hc⟩
 ·exact .inl h0
 ·exact .inr ⟨b,off,rfl,hlt,fun j hj=>(hb.cell (p:=⟨b,off+j,none⟩) hlt).trans (hc j hj)⟩
theorem Ints.mono {w:World} {B C:Nat} {a:Option Addr} {l:List Int} (h:Ints w B a l) (hBC:B<=C):Ints w C a l:=by
 rcases h with h0|⟨b,off,rfl,hlt,hc⟩
 ·exact .inl h0
 ·exact .inr ⟨b,off,rfl,Nat.lt_of_lt_of_le hlt hBC,hc⟩
theorem Ints.some {w:World} {B:Nat} {a:Option Addr} {l:List Int} (h:Ints w B a l) (hl:0<l.length) :
  ∃ b off,a=.some ⟨b,off,none⟩/\b<B/\∀ j (h:j<l.length),w.cell? ⟨b,off+j,none⟩=.some (.int .i64 l[j]):=by
 rcases h with h0|h
 ·subst h0;simp at hl
 ·exact h
def irow (l:List Int):Array Value:=(l.map (Value.int .i64)).toArray
def IsI (w:World) (g:Nat) (t:TypeId) (l:List Int):Prop:=w.heap[g]? = some (.cells (irow l) t (0,0))
theorem irow_size (l:List Int):(irow l).size=l.length:=by simp[irow]
theorem irow_get (l:List Int) (j:Nat) (h:j<l.length):(irow l)[j]? = some (.int .i64 l[j]):=by simp[irow,h]
theorem irow_set (l:List Int) (i:Nat) (s:Int):(irow l).setIfInBounds i (.int .i64 s)=irow (l.set i s):=by
 simp[irow,List.map_set]
theorem IsI.cell {w:World} {g t:Nat} {l:List Int} (h:IsI w g t l) {j:Nat} (hj:j<l.length):w.cell? ⟨g,j,none⟩=some (.int .i64 l[j]):=by
 rw[cell_of_row w g j _ t (0,0) h,irow_get l j hj]
theorem IsI.frozen {w:World} {g t:Nat} {l:List Int} (h:IsI w g t l) (j:Nat):w.frozen? ⟨g,j,none⟩=false:=frozen_of_row w g j _ t h
theorem IsI.set {w:World} {g t:Nat} {l:List Int} (h:IsI w g t l) (i:Nat) (s:Int):IsI (w.setCell ⟨g,i,none⟩ (.int .i64 s)) g t (l.set i s):=by
 unfold IsI;rw[heap_setCell_same w g i _ t _ h,irow_set]
theorem IsI.set_other {w:World} {g t:Nat} {l:List Int} (h:IsI w g t l) (a:Addr) (v:Value) (ha:g≠a.block):IsI (w.setCell a v) g t l:=by
 unfold IsI;rw[heap_setCell_other w a g v ha];exact h
theorem IsI.lt {w:World} {g t:Nat} {l:List Int} (h:IsI w g t l):g<w.heap.size:=(Array.getElem?_eq_some_iff.1 h).1
theorem IsI.below {w w':World} {g t B:Nat} {l:List Int} (h:IsI w g t l) (b:Below B w w') (hg:g<B):IsI w' g t l:=by
 unfold IsI;rw[b.block g hg];exact h
theorem IsI.ints {w:World} {g t B:Nat} {l:List Int} (h:IsI w g t l) (hB:g<B):Ints w B (some ⟨g,0,none⟩) l :=
 .inr ⟨g,0,rfl,hB,fun j hj=>by rw[Nat.zero_add];exact h.cell hj⟩
def mid (l:List Int) (k:Nat):List Int:=l.take k++List.replicate (l.length-k) 0
theorem made_ints {w:World} {base e g n:Nat} (h:w.ownsRow base e 1 (.slice (some ⟨g,0,none⟩) n n) n (madeCells (Value.int .i64 0).cells (n*1)).toList):IsI w g e (List.replicate n 0):=by
 obtain⟨_,h⟩:=h
 rcases h with⟨h,_⟩|⟨g',cap,cur,hv,_,hb,_,_,hsz,htk⟩
 ·simp at h
 ·simp at hv
  obtain⟨rfl,rfl⟩:=hv
  have hm:(madeCells (Value.int .i64 0).cells (n*1)).toList=(irow (List.replicate n 0)).toList:=by
   rw[Nat.mul_one]
   have:=toList_madeCells_one (.int .i64 0) n
   simp only[irow,List.map_replicate];exact this
  rw[hm,List.take_of_length_le (by simp[hsz])]at htk
  have:cur=irow (List.replicate n 0):=by simpa using htk
  rw[this]at hb;exact hb
theorem Tryz.infoI2:(prog.info? 2).map (fun i=>(i.zero,i.size,i.bytes))=some (some (.int .i64 0),1,8):=by kernel_rfl
end In
namespace In
open St (Aft)
def IsO (w:World) (g t:Nat) (l:List Int):Prop:=∃ cur:Array Value,w.heap[g]? = some (.cells cur t (0,0))/\∀ j (h:j<l.length),cur[j]? = some (.int .i64 l[j])
theorem IsO.cell {w:World} {g t:Nat} {l:List Int} (h:IsO w g t l) {j:Nat} (hj:j<l.length):w.cell? ⟨g,j,none⟩=some (.int .i64 l[j]):=by
 obtain⟨cur,hb,hc⟩:=h;rw[cell_of_row w g j _ t (0,0) hb,hc j hj]
theorem IsO.frozen {w:World} {g t:Nat} {l:List Int} (h:IsO w g t l) (j:Nat):w.frozen? ⟨g,j,none⟩=false:=by
 obtain⟨cur,hb,_⟩:=h;exact frozen_of_row w g j _ t hb
theorem IsO.set {w:World} {g t:Nat} {l:List Int} (h:IsO w g t l) (i:Nat) (s:Int):IsO (w.setCell ⟨g,i,none⟩ (.int .i64 s)) g t (l.set i s):=by
 obtain⟨cur,hb,hc⟩:=h;refine⟨_,heap_setCell_same w g i _ t _ hb,fun j hj=>?_⟩;rw[List.length_set]at hj;rw[Array.getElem?_setIfInBounds,List.getElem_set];have hlt:j<cur.size:=(Array.getElem?_eq_some_iff.1 (hc j hj)).1;by_cases e:i=j
 ·subst e
  simp[hlt]
 ·simp[e,hc j hj]
theorem IsO.lt {w:World} {g t:Nat} {l:List Int} (h:IsO w g t l):g<w.heap.size:=by
 obtain⟨cur,hb,_⟩:=h;exact(Array.getElem?_eq_some_iff.1 hb).1
theorem IsO.of_heap {w w':World} {g t:Nat} {l:List Int} (h:IsO w g t l) (e:w'.heap[g]? = w.heap[g]?):IsO w' g t l:=by
 obtain⟨cur,hb,hc⟩:=h;exact⟨cur,by rw[e];exact hb,hc⟩
theorem IsO.below {w w':World} {g t B:Nat} {l:List Int} (h:IsO w g t l) (b:Below B w w') (hg:g<B):IsO w' g t l:=h.of_heap (b.block g hg)
theorem IsO.ints {w:World} {g t B:Nat} {l:List Int} (h:IsO w g t l) (hB:g<B):Ints w B (some ⟨g,0,none⟩) l :=
 .inr ⟨g,0,rfl,hB,fun j hj=>by rw[Nat.zero_add];exact h.cell hj⟩
theorem IsI.own {w:World} {g t:Nat} {l:List Int} (h:IsI w g t l):IsO w g t l:=⟨irow l,h,fun j hj=>irow_get l j hj⟩
def marks (k n:Nat):List Int:=(List.range n).map fun j=>((k+j:Nat):Int)
def mmid (l:List Int) (k i:Nat):List Int:=marks k i++l.drop i
end In
namespace In
open St (Aft)
def OwnI (w:World) (base:Nat) (v:Value) (l:List Int):Prop:=w.ownsRow base 2 1 v l.length (l.map (Value.int .i64))
theorem OwnI.nil (w:World) (base:Nat):OwnI w base (.slice none 0 0) []:=World.ownsRow_nil w base _ _
theorem OwnI.split {w:World} {base:Nat} {v:Value} {l:List Int} (h:OwnI w base v l) :
  (v=.slice none 0 0/\l=[])∨∃ g cap,v=.slice (some ⟨g,0,none⟩) l.length cap/\base<=g/\l.length<=cap/\IsO w g 2 l:=by
 obtain⟨_,h⟩:=h
 rcases h with⟨h,h0⟩|⟨g,cap,cur,hv,hg,hb,hnc,_,hsz,htk⟩
 ·exact .inl ⟨h,List.eq_nil_of_length_eq_zero h0⟩
 ·refine .inr ⟨g,cap,hv,hg,hnc,cur,hb,fun j hj=>?_⟩
  rw[<-Array.getElem?_toList]
  have h1:cur.toList[j]? = (cur.toList.take (l.length*1))[j]?:=by rw[List.getElem?_take_of_lt (by omega)]
  rw[h1,htk];simp[hj]
theorem OwnI.below {w w':World} {base:Nat} {v:Value} {l:List Int} (h:OwnI w base v l) (b:Below w.heap.size w w'):OwnI w' base v l:=by
 obtain⟨hl,h⟩:=h;refine⟨hl,?_⟩
 rcases h with h|⟨g,cap,cur,hv,hg,hb,rest⟩
 ·exact .inl h
 ·exact .inr ⟨g,cap,cur,hv,hg,by rw[b.block g (Array.getElem?_eq_some_iff.1 hb).1];exact hb,rest⟩
theorem OwnI.mono {w:World} {base base':Nat} {v:Value} {l:List Int} (h:OwnI w base v l) (hb:base'<=base):OwnI w base' v l:=by
 obtain⟨hl,h⟩:=h;refine⟨hl,?_⟩
 rcases h with h|⟨g,cap,cur,hv,hg,rest⟩
 ·exact .inl h
 ·exact .inr ⟨g,cap,cur,hv,Nat.le_trans hb hg,rest⟩
theorem OwnI.ints {w:World} {base:Nat} {v:Value} {l:List Int} (h:OwnI w base v l):∃ a cap,v=.slice a l.length cap/\l.length<=cap/\Ints w w.heap.size a l:=by
 rcases h.split with⟨rfl,rfl⟩|⟨g,cap,rfl,_,hc,ho⟩
 ·exact⟨none,0,rfl,nl,.inl rfl⟩
 ·exact⟨_,cap,rfl,hc,ho.ints ho.lt⟩
theorem one_newI (W:World) (s:Int) (t:TypeId):∀ (j:Nat) (u:Value),[(Value.int .i64) s][j]? = some u->(W.alloc (.cells #[.int .i64 s] t)).cell? ((⟨W.heap.size,0,none⟩:Addr).add j)=some u:=by
 intro j u hj
 match j,hj with
 |0,hj=>simp at hj;subst hj;simp[Addr.add]
theorem one_cellI (s:Int):∀ u∈[(Value.int .i64) s],u.oneCell'=true:=by
 intro u hu;simp at hu;subst hu;rfl
theorem OwnI.snoc {w:World} {base:Nat} {v:Value} {l:List Int} {s:Int} (h:w.ownsRow base 2 1 v (l.length+1) (l.map (Value.int .i64)++[.int .i64 s])):OwnI w base v (l++[s]):=by
 unfold OwnI;rw[List.length_append,List.map_append];exact h
theorem app_one {B base:Nat} {e:TypeId} {w0 w w1:World} {v:Value} {n size:Nat} {xs:List Value} {o:Obj} (hbel:Below B w0 w) (hB:B<=w.heap.size) (hBb:B<=base)
  (hown:w.ownsRow base e size v n xs) (hgrow:(w.alloc o).grownBy w1 v.ownBlock):Below B w0 w1:=by
 refine(hbel.alloc hB o).grown hgrow (by simp;omega) ?_;intro k hk;exact Nat.le_trans hBb (hown.lt k hk).1
end In
namespace Gn
def byteN (s:ByteArray) (p:Nat):Nat:=(s.data.toList.getD p 0).toNat
theorem byteN_eq (s:ByteArray) (p:Nat) (h:p<s.size):s[p].toNat=byteN s p:=by
 have h':p<s.data.toList.length:=by simpa using h
 unfold byteN;rw[List.getD_eq_getElem?_getD,List.getElem?_eq_getElem h'];rfl
def run (s:ByteArray):Nat->Nat->Nat->Nat->Nat × Nat × Int
 |0,_,_,_=>(0,0,3)
 |f+1,k,p,u =>
  if s.size<=p then (0,0,4)
  else if k=9/\1<byteN s p then (0,0,3)
  else if byteN s p<128 then (if byteN s p=0/\0<k then (0,0,3) else (u+byteN s p%128*2 ^ (7*k),p+1,0))
  else run s f (k+1) (p+1) (u+byteN s p%128*2 ^ (7*k))
def numR (s:ByteArray) (a:Nat):Nat × Nat × Int:=run s 10 0 a 0
theorem run_end (s:ByteArray) (f k p u:Nat) (h:s.size<=p):run s (f+1) k p u=(0,0,4):=by
 rw[run,if_pos h]
theorem run_nine (s:ByteArray) (f k p u:Nat) (h:p<s.size) (hk:k=9) (hc:1<s[p].toNat):run s (f+1) k p u=(0,0,3):=by
 rw[byteN_eq s p h]at hc;rw[run,if_neg (by omega),if_pos ⟨hk,hc⟩]
theorem run_zero (s:ByteArray) (f k p u:Nat) (h:p<s.size) (hc:s[p].toNat=0) (hk:0<k):run s (f+1) k p u=(0,0,3):=by
 rw[byteN_eq s p h]at hc;rw[run,if_neg (by omega),if_neg (by omega),if_pos (by omega),if_pos ⟨hc,hk⟩]
theorem run_last (s:ByteArray) (f k p u:Nat) (h:p<s.size) (h9:¬(k=9/\1<s[p].toNat)) (hc:s[p].toNat<128) (hz:¬(s[p].toNat=0/\0<k)) :
  run s (f+1) k p u=(u+s[p].toNat%128*2 ^ (7*k),p+1,0):=by
 rw[byteN_eq s p h]at hc hz h9 ⊢;rw[run,if_neg (by omega),if_neg h9,if_pos hc,if_neg hz]
theorem run_more (s:ByteArray) (f k p u:Nat) (h:p<s.size) (hk:k≠9) (hc:128<=s[p].toNat) :
  run s (f+1) k p u=run s f (k+1) (p+1) (u+s[p].toNat%128*2 ^ (7*k)):=by
 rw[byteN_eq s p h]at hc ⊢;rw[run,if_neg (by omega),if_neg (by omega),if_neg (by omega)]
theorem pow_le (k:Nat) (hk:k<=9):2 ^ (7*k)<=9223372036854775808:=by
 have:2 ^ (7*k)<=2 ^ 63:=Nat.pow_le_pow_right (by decide) (by omega)
 exact this
theorem pow_next (k:Nat):2 ^ (7*(k+1))=128*2 ^ (7*k):=by
 rw[show 7*(k+1)=7+7*k by omega,Nat.pow_add]
theorem part_lt (c k:Nat):c%128*2 ^ (7*k)<=127*2 ^ (7*k):=Nat.mul_le_mul_right _ (by omega)
theorem next_lt (u c k:Nat) (hu:u<2 ^ (7*k)):u+c%128*2 ^ (7*k)<2 ^ (7*(k+1)):=by
 rw[pow_next]
 have:=part_lt c k
 omega
theorem next_small (u c k:Nat) (hu:u<2 ^ (7*k)) (hk:k<=9) (h9:¬(k=9/\1<c)):c%128*2 ^ (7*k)<=9223372036854775808/\u+c%128*2 ^ (7*k)<=18446744073709551615:=by
 have hp:=pow_le k hk;by_cases e:k=9
 ·have hc:c%128<=1:=by omega
  have:=Nat.mul_le_mul_right (2 ^ (7*k)) hc
  omega
 ·have hn:=next_lt u c k hu
  have:=pow_le (k+1) (by omega)
  omega
theorem or_add (u c k:Nat) (hu:u<2 ^ (7*k)):u ||| (c%128*2 ^ (7*k))=u+c%128*2 ^ (7*k):=by
 rw[Nat.or_comm,nat_join (7*k) (c%128*2 ^ (7*k)) u (Nat.mul_mod_left _ _) hu,Nat.add_comm]
def unz (u:Nat):Int:=if u%2=1 then -((u/2:Nat):Int)-1 else ((u/2:Nat):Int)
theorem wrap_part (c k:Nat) (h:c%128*2 ^ (7*k)<=9223372036854775808):IntKind.u64.wrap ((c:Int)%128*2 ^ (7*k))=((c%128*2 ^ (7*k):Nat):Int):=by
 have e:((c:Int)%128*2 ^ (7*k))=((c%128*2 ^ (7*k):Nat):Int):=by
  rw[Int.natCast_mul,Int.natCast_emod,Int.natCast_pow];rfl
 rw[e,IntKind.wrap_u64];omega
theorem wrap_next (v c k:Nat) (h1:c%128*2 ^ (7*k)<=9223372036854775808) (h2:v+c%128*2 ^ (7*k)<=18446744073709551615) :
  IntKind.u64.wrap ((v:Int)+IntKind.u64.wrap ((c:Int)%128*2 ^ (7*k)))=((v+c%128*2 ^ (7*k):Nat):Int):=by
 rw[wrap_part c k h1,IntKind.wrap_u64];omega
theorem unz_odd (x:Nat) (h:x%2=1):unz x = -((x/2:Nat):Int)-1:=by unfold unz;rw[if_pos h]
theorem unz_even (x:Nat) (h:¬x%2=1):unz x=((x/2:Nat):Int):=by unfold unz;rw[if_neg h]
theorem and_low (c:Nat) (h:c<256):bits BinOp.and IntKind.u8 (c:Int) 127=((c%128:Nat):Int):=by
 have:=u8_and_nat c 127 h (by decide)
 rw[nat_mask7]at this;exact this
theorem shl_part (y k:Nat) (h:y*2 ^ (7*k)<=9223372036854775808):IntKind.u64.wrap ((y:Int)*2 ^ (7*k))=((y*2 ^ (7*k):Nat):Int):=by
 have e:((y:Int)*2 ^ (7*k))=((y*2 ^ (7*k):Nat):Int):=by
  rw[Int.natCast_mul,Int.natCast_pow];rfl
 rw[e,IntKind.wrap_u64];omega
theorem or_part (v c k:Nat) (hv:v<2 ^ (7*k)) (h1:c%128*2 ^ (7*k)<=9223372036854775808) (h2:v<=9223372036854775807) :
  bits BinOp.or IntKind.u64 (v:Int) ((c%128*2 ^ (7*k):Nat):Int)=((v+c%128*2 ^ (7*k):Nat):Int):=by
 rw[u64_or_nat v _ (by omega) (by omega),or_add v c k hv]
theorem unz_odd' (x:Nat) (h:x%2=1):-((x:Int)/2)-1=unz x:=by rw[unz_odd x h];omega
theorem unz_even' (x:Nat) (h:¬x%2=1):(x:Int)/2=unz x:=by rw[unz_even x h];omega
theorem hide {p:Prop} (h:p):Hid p:=h
def outN (n at_ code:Int):Value:=.agg #[.int .i64 n,.int .i64 at_,.int .i64 code]
def resV (r:Nat × Nat × Int):Value:=if r.2.2=0 then outN (unz r.1) r.2.1 0 else outN 0 0 r.2.2
def getV (s:ByteArray) (a:Int):Value:=if 8000<s.size then outN 0 0 2 else if a<0 then outN 0 0 1 else resV (numR s a.toNat)
end Gn
namespace Hf
theorem hideH {p:Prop} (h:p):Hid p:=h
abbrev MT:=Tree × Value
def cells:List MT->List Value
 |[]=>[]
 |x :: m=>.int .i64 (x.1.1:Nat) :: x.2 :: cells m
theorem cells_length:∀ m:List MT,(cells m).length=m.length*2
 |[]=>rfl
 |x :: m=>by
  rw[cells,List.length_cons,List.length_cons,cells_length m,List.length_cons];omega
theorem cells_append:∀ m k:List MT,cells (m++k)=cells m++cells k
 |[],k=>rfl
 |x :: m,k=>by
  rw[List.cons_append,cells,cells,cells_append m k];rfl
theorem cells_at:∀ (m:List MT) (i:Nat) (h:i<m.length),(cells m)[i*2]? = some (.int .i64 (m[i].1.1:Nat))/\(cells m)[i*2+1]? = some m[i].2
 |x :: m,0,_=>⟨rfl,rfl⟩
 |x :: m,i+1,h=>by
  have:=cells_at m i (Nat.lt_of_succ_lt_succ h)
  rw[cells,show (i+1)*2=i*2+2 by omega,show i*2+2+1=(i*2+1)+2 by omega];exact this
def Sym (W:World) (v:Value) (s:List Nat):Prop :=
 ∃ g cap cur,v=.slice (some ⟨g,0,none⟩) s.length cap/\W.heap[g]? = some (.cells cur 3 (0,0))/\s.length<=cap/\∀ j (h:j<s.length),cur[j]? = some (.int .i64 (s[j]:Nat))
def Keeps (W W':World):Prop:=∀ (g:Nat) (cur:Array Value),W.heap[g]? = some (.cells cur 3 (0,0))->W'.heap[g]? = some (.cells cur 3 (0,0))
theorem Keeps.trans {W W' W'':World} (h:Keeps W W') (k:Keeps W' W''):Keeps W W'':=fun g cur e=>k g cur (h g cur e)
theorem lt_row {w:World} {g:Nat} {o:Obj} (h:w.heap[g]? = some o):g<w.heap.size:=(Array.getElem?_eq_some_iff.1 h).1
theorem Keeps.below {W W':World} (h:Below W.heap.size W W'):Keeps W W':=fun g _ e=>(h.block g (lt_row e)).trans e
theorem Keeps.set {W:World} {g:Nat} {cs:Array Value} {e:TypeId} (hg:W.heap[g]? = some (.cells cs e (0,0))) (he:e≠3) (i:Nat) (v:Value):Keeps W (W.setCell ⟨g,i,none⟩ v):=fun k cur h=>by
 rw[heap_setCell_other W _ k v (by
  rintro rfl;rw[hg]at h;simp at h
  exact he h.2)]
 exact h
theorem Sym.keeps {W W':World} {v:Value} {s:List Nat} (h:Sym W v s) (k:Keeps W W'):Sym W' v s:=by
 obtain⟨g,cap,cur,hv,hg,hc⟩:=h;exact⟨g,cap,cur,hv,k g cur hg,hc⟩
def OwnT (W:World) (e:TypeId) (base:Nat) (v:Value) (m:List MT):Prop:=W.ownsRow base e 2 v m.length (cells m)
def Syms (W:World) (m:List MT):Prop:=∀ x∈m,Sym W x.2 x.1.2
theorem Syms.keeps {W W':World} {m:List MT} (h:Syms W m) (k:Keeps W W'):Syms W' m:=fun x hx=>(h x hx).keeps k
theorem row_at {W:World} {e:TypeId} {g:Nat} {cur:Array Value} {m:List MT} (hb:W.heap[g]? = some (.cells cur e (0,0))) (ht:cur.toList.take (m.length*2)=cells m) (i:Nat) (hi:i<m.length) :
  W.cell? ⟨g,i*2,none⟩=some (.int .i64 (m[i].1.1:Nat))/\W.cell? ⟨g,i*2+1,none⟩=some m[i].2:=by
 have hc:=cells_at m i hi;rw[<-ht]at hc;rw[List.getElem?_take_of_lt (by omega),List.getElem?_take_of_lt (by omega),Array.getElem?_toList,Array.getElem?_toList]at hc;exact⟨(cell_of_row W g _ _ _ _ hb).trans hc.1,(cell_of_row W g _ _ _ _ hb).trans hc.2⟩
def mt (m:List MT):List Tree:=m.map (·.1)
theorem mt_length (m:List MT):(mt m).length=m.length:=List.length_map ..
theorem wt_mt (m:List MT) (i:Nat) (h:i<m.length):wt (mt m) i=m[i].1.1:=by
 unfold wt mt;rw[List.getD_eq_getElem?_getD,List.getElem?_map,List.getElem?_eq_getElem h];rfl
def lays (cur:Array Value):Nat->List Value->Array Value
 |_,[]=>cur
 |o,v :: r=>lays (cur.setIfInBounds o v) (o+1) r
theorem lays_size:∀ (vs:List Value) (o:Nat) (cur:Array Value),(lays cur o vs).size=cur.size
 |[],_,_=>rfl
 |v :: r,o,cur=>by rw[lays,lays_size r,Array.size_setIfInBounds]
theorem lays_heap (g:Nat) (t:TypeId):∀ (vs:List Value) (o:Nat) (cur:Array Value) (w:World),w.heap[g]? = some (.cells cur t (0,0))->(w.setCells g o vs).heap[g]? = some (.cells (lays cur o vs) t (0,0))
 |[],_,_,_,h=>h
 |v :: r,o,_,w,h=>lays_heap g t r (o+1) _ _ (heap_setCell_same w g o _ _ v h)
theorem lays_list:∀ (vs:List Value) (o:Nat) (cur:Array Value),o+vs.length<=cur.size->(lays cur o vs).toList=cur.toList.take o++vs++cur.toList.drop (o+vs.length)
 |[],o,cur,_=>by
  rw[lays,List.append_nil,List.length_nil,Nat.add_zero,List.take_append_drop]
 |v :: r,o,cur,h=>by
  rw[List.length_cons]at h;rw[lays,lays_list r (o+1) _ (by rw[Array.size_setIfInBounds];omega),Array.toList_setIfInBounds,List.length_cons]
  have h1:(cur.toList.set o v).take (o+1)=cur.toList.take o++[v]:=by
   rw[List.take_add_one,List.take_set_of_le nl,List.getElem?_set_self (by rw[Array.length_toList];omega)];rfl
  rw[h1,List.drop_set_of_lt (by omega),show o+1+r.length=o+(r.length+1) by omega,List.append_assoc,List.append_assoc,List.append_assoc];rfl
theorem cells_take:∀ (m:List MT) (i:Nat),cells (m.take i)=(cells m).take (i*2)
 |[],i=>by simp[cells]
 |x :: m,0=>by simp[cells]
 |x :: m,i+1=>by
  rw[List.take_succ_cons,cells,cells,cells_take m i,show (i+1)*2=i*2+1+1 by omega,List.take_succ_cons,List.take_succ_cons]
theorem cells_drop:∀ (m:List MT) (i:Nat),cells (m.drop i)=(cells m).drop (i*2)
 |[],i=>by simp[cells]
 |x :: m,0=>by simp
 |x :: m,i+1=>by
  rw[List.drop_succ_cons,cells,cells_drop m i,show (i+1)*2=i*2+1+1 by omega,List.drop_succ_cons,List.drop_succ_cons]
theorem cells_one (m:List MT) (h:∀ x∈m,x.2.oneCell'=true):∀ u∈cells m,u.oneCell'=true:=by
 induction m with
 |nil=>intro u hu;cases hu
 |cons x m ih =>
  intro u hu;rw[cells]at hu
  rcases List.mem_cons.1 hu with rfl|hu
  ·rfl
  ·rcases List.mem_cons.1 hu with rfl|hu
   ·exact h x (List.mem_cons_self ..)
   ·exact ih (fun y hy=>h y (List.mem_cons_of_mem _ hy)) u hu
theorem gone_list (cur:Array Value) (m:List MT) (n cap i:Nat) (hn:m.length=n) (hi:i<n) (hc:n<=cap) (hs:cur.size=cap*2) (ht:cur.toList.take (n*2)=cells m) (x y:Value) :
  (lays (lays cur (i*2) (cells (m.drop (i+1)))) ((n-1)*2) [x,y]).toList.take ((m.eraseIdx i).length*2)=cells (m.eraseIdx i):=by
 have hl:(cells (m.drop (i+1))).length=(n-(i+1))*2:=by rw[cells_length,List.length_drop,hn]
 have he:(m.eraseIdx i).length=n-1:=by rw[List.length_eraseIdx,if_pos (by omega),hn]
 have h1:cur.toList.take (i*2)=cells (m.take i):=by
  rw[cells_take,<-ht,List.take_take,Nat.min_eq_left (by omega)]
 rw[he,lays_list _ _ _ (by rw[lays_size,List.length_cons,List.length_cons,List.length_nil,hs];omega),List.append_assoc,List.take_append_of_le_length (by rw[List.length_take,Array.length_toList,lays_size,hs];omega),List.take_take,Nat.min_self,lays_list _ _ _ (by rw[hl,hs];omega),h1]
 have hl1:(cells (m.take i)).length=i*2:=by rw[cells_length,List.length_take,hn];omega
 rw[List.take_append_of_le_length (by rw[List.length_append,hl1,hl];omega),List.take_of_length_le (by rw[List.length_append,hl1,hl];omega),<-cells_append,<-List.eraseIdx_eq_take_drop_succ]
theorem Tryz.infoTree:(prog.info? 212).map (fun i=>(i.zero,i.size,i.bytes))=some (some (.agg #[.int .i64 0,.slice none 0 0]),2,32):=by kernel_rfl
theorem clear_one (w:World) (t e ty:TypeId) (ht:prog.underlying t=some (.slice e)) (hv:∀ w,(zeroValue e).run prog w=.ok (.agg #[.int .i64 0,.slice none 0 0]) w) (b o c:Nat)
  (hc:∀ j,j<2->(w.cell? ⟨b,o+j,none⟩).isSome=true) (hf:∀ j,j<2->w.frozen? ⟨b,o+j,none⟩=false) :
  (Builtin.clear_ #[t] ty #[.slice (some ⟨b,o,none⟩) 1 c]).run prog w=.ok (.tuple #[]) (w.setCells b o [.int .i64 0,.slice none 0 0]):=by
 have hzc:(Builtin.zeroCells (Value.agg #[.int .i64 0,.slice none 0 0]).cells 1).toList=[.int .i64 0,.slice none 0 0]:=by kernel_rfl
 have hst:=run_storeCells_cells (P:=prog) b o [.int .i64 0,.slice none 0 0] 0 w (by simpa using hc) (by simpa using hf) (by intro v hv';simp at hv';rcases hv' with rfl|rfl<;>rfl);simp only[Nat.add_zero]at hst;simp[Builtin.clear_,run_underlying ht,hv,hzc,hst]
theorem zero_tree (w:World):(zeroValue 212).run prog w=.ok (.agg #[.int .i64 0,.slice none 0 0]) w:=by
 simp[zeroValue,go_sem];rfl
theorem delete_any (g k cap i:Nat) (m:List MT) (cur:Array Value) (w:World) (hn:m.length=k+1) (hi:i<=k) (hc:k+1<=cap) (h257:k<=257) (hb:w.heap[g]? = some (.cells cur 212 (0,0))) (hs:cur.size=cap*2) (ht:cur.toList.take ((k+1)*2)=cells m) (h1:∀ x∈m,x.2.oneCell'=true) :
  Calls prog 224 #[.slice (some ⟨g,0,none⟩) (k+1) cap,.int .i64 i,.int .i64 ((i:Int)+1)] w fun e w'=>e=.returned (.slice (some ⟨g,0,none⟩) k cap)/\w'=(w.drew.setCells g (0+i*2) (cells (m.drop (i+1)))).setCells g (k*2) [.int .i64 0,.slice none 0 0]:=by
 obtain⟨i0,hi0,hz0,hz1,hz2⟩:=info_parts Tryz.infoTree
 have hic:i<=cap:=by omega
 have hjc:i+1<=cap:=by omega
 have g1:(i:Int)+1<=(k:Int)+1:=by omega
 have g2:(i:Int)+1<=cap:=by omega
 have g3:(k:Int)+1<=cap:=by omega
 have g4:((i:Int)==(i:Int)+1)=false:=by simp;omega
 have g5:(0:Int)<=(i:Int)+1:=by omega
 have hL:i+(k-i)=k:=by omega
 have hlen:(cells (m.drop (i+1))).length=(k-i)*2:=by rw[cells_length,List.length_drop,hn];omega
 obtain⟨A,hA,hsrc⟩:∃ A:Addr,(if cap=i+1 then some (⟨g,0,none⟩:Addr) else some ⟨g,(i+1)*2,none⟩)=some A/\Hid (∀ t u,(cells (m.drop (i+1)))[t]? = some u->w.drew.cell? (A.add t)=some u):=by
  by_cases h:cap=i+1
  ·refine⟨⟨g,0,none⟩,by simp[h],fun t u hu=>?_⟩
   have h0:(cells (m.drop (i+1))).length=0:=by rw[hlen];omega
   rw[List.length_eq_zero_iff.1 h0]at hu;simp at hu
  ·refine⟨⟨g,(i+1)*2,none⟩,by simp[h],fun t u hu=>?_⟩
   have ht':t<(k-i)*2:=by
    have:=(List.getElem?_eq_some_iff.1 hu).1
    rwa[hlen]at this
   rw[Addr.add_lit];refine(cell_of_row w g _ _ _ _ hb).trans ?_;rw[cells_drop,List.getElem?_drop,<-ht,List.getElem?_take_of_lt (by omega),Array.getElem?_toList]at hu;exact hu
 have s1:Hid ((cells (m.drop (i+1))).length=(k-i)*2):=hlen;have s2:Hid (∀ u∈cells (m.drop (i+1)),u.oneCell'=true):=cells_one _ fun x hx=>h1 x (List.mem_of_mem_drop hx)
 have hcz:∀ j,j<cap*2->(w.cell? ⟨g,j,none⟩).isSome=true:=fun j hj=>by
  rw[cell_of_row w g j _ _ _ hb,Array.getElem?_eq_getElem (by omega)];rfl
 have s3:Hid (∀ t,t<(cells (m.drop (i+1))).length->(w.drew.cell? ⟨g,0+i*2+t,none⟩).isSome=true/\w.drew.frozen? ⟨g,0+i*2+t,none⟩=false):=fun t ht'=>by
  rw[hlen]at ht';exact⟨hcz _ (by omega),frozen_of_row w g _ _ _ hb⟩
 obtain⟨W1,hW1⟩:∃ W1,W1=w.drew.setCells g (0+i*2) (cells (m.drop (i+1))):=⟨_,rfl⟩
 have hb1:W1.heap[g]? = some (.cells (lays cur (0+i*2) (cells (m.drop (i+1)))) 212 (0,0)):=by
  rw[hW1];exact lays_heap g _ _ _ _ _ hb
 have hcl:∀ ty,(Builtin.clear_ #[208] ty #[.slice (some ⟨g,k*2,none⟩) 1 (cap-k)]).run prog W1=.ok (.tuple #[]) (W1.setCells g (k*2) [.int .i64 0,.slice none 0 0]):=fun ty =>
  clear_one W1 _ _ ty underlying208 zero_tree g _ _ (fun j hj=>by
   rw[cell_of_row W1 g _ _ _ _ hb1,Array.getElem?_eq_getElem (by rw[lays_size];omega)]
   rfl) (fun j hj=>frozen_of_row W1 g _ _ _ hb1)
 have hW:Hid (W1=w.drew.setCells g (0+i*2) (cells (m.drop (i+1)))):=hW1;rw[<-hW1];generalize cells (m.drop (i+1))=news at hsrc s1 s2 s3 hW;clear hlen hb1 hcz hb ht hs hW1;go_enter func224,ntmps224
 go_wp2_with fail
 go_region_law (refine step_append_room rfl (.tmp 22) (.tmp 25) 208 rfl 212 i0 2 underlying208 hi0 hz1 g 0 i cap (by simp[Act.eval,Act.put]) A (k-i) (cap-(i+1)) news (by simp[Act.eval,Act.put]) s1.o hsrc.o s2.o (by omega) s3.o ?_;rw[<-hW.o])
 go_wp2_with fail
 go_ret;exact⟨rfl,rfl⟩
end Hf
namespace Bi
def okL (m x:Int):Prop:=0<=x/\x<=m
def within (l:List Int) (m:Int):Bool:=decide (l.length<=257/\∀ x∈l,0<=x/\x<=m)
theorem within_yes {l:List Int} {m:Int} (h:within l m=true):l.length<=257/\∀ x∈l,0<=x/\x<=m:=of_decide_eq_true h
theorem within_of {l:List Int} {m:Int} (h1:l.length<=257) (h2:∀ x∈l,0<=x/\x<=m):within l m=true:=decide_eq_true ⟨h1,h2⟩
theorem within_long {l:List Int} {m:Int} (h:257<l.length):within l m=false:=decide_eq_false fun x=>by have:=x.1;omega
theorem within_bad {l:List Int} {m:Int} {j:Nat} (hj:j<l.length) (h:l[j]<0∨m<l[j]):within l m=false:=decide_eq_false fun x=>by
 have:=x.2 _ (List.getElem_mem hj)
 omega
def part (x:Int):Nat:=if 0<x then 2 ^ (12-x.toNat) else 0
def csum (l:List Int):Nat:=(l.map part).sum
def above (l:List Int):Nat:=l.countP fun x=>decide (0<x)
theorem take_more {l:List Int} {k:Nat} (h:k<l.length):l.take (k+1)=l.take k++[l[k]]:=List.take_succ_eq_append_getElem h
theorem csum_snoc (l:List Int) (x:Int):csum (l++[x])=csum l+part x:=by simp[csum]
theorem above_snoc (l:List Int) (x:Int):above (l++[x])=above l+if 0<x then 1 else 0:=by simp[above,List.countP_append,List.countP_cons]
theorem csum_more {l:List Int} {k:Nat} (h:k<l.length):csum (l.take (k+1))=csum (l.take k)+part l[k]:=by
 rw[take_more h,csum_snoc]
theorem above_more {l:List Int} {k:Nat} (h:k<l.length):above (l.take (k+1))=above (l.take k)+if 0<l[k] then 1 else 0:=by
 rw[take_more h,above_snoc]
theorem part_le (x:Int):part x<=4096:=by
 unfold part
 split
 ·have:=Nat.pow_le_pow_right (n:=2) (by decide) (show 12-x.toNat<=12 by omega)
  omega
 ·omega
theorem above_le (l:List Int):above l<=l.length:=List.countP_le_length
theorem above_zero:∀ l:List Int,above l=0->csum l=0/\∀ x∈l,¬0<x:=by
 intro l
 induction l with
 |nil=>intro _;exact⟨rfl,fun x hx=>by cases hx⟩
 |cons x l ih =>
  intro h;simp only[above,List.countP_cons]at h
  have hx:¬0<x:=by
   intro hx;simp[hx]at h
  obtain⟨h1,h2⟩:=ih (by simp only[above];omega);refine⟨?_,fun y hy=>?_⟩
  ·simp only[csum,List.map_cons,List.sum_cons]
   simp only[csum]at h1;rw[h1,part,if_neg hx]
  ·rcases List.mem_cons.1 hy with e|hy
   ·rw[e];exact hx
   ·exact h2 y hy
theorem above_one:∀ l:List Int,above l=1->∃ x,x∈l/\0<x/\csum l=2 ^ (12-x.toNat)/\∀ y∈l,0<y->y=x:=by
 intro l
 induction l with
 |nil=>intro h;simp[above]at h
 |cons x l ih =>
  intro h;simp only[above,List.countP_cons]at h;by_cases hx:0<x
  ·simp[hx]at h
   have h0:above l=0:=by
    simp only[above,List.countP_eq_zero];intro y hy
    have:=h y hy
    simpa using this
   obtain⟨h1,h2⟩:=above_zero l h0;refine⟨x,List.mem_cons_self,hx,?_,fun y hy hp=>?_⟩
   ·simp only[csum,List.map_cons,List.sum_cons]
    simp only[csum]at h1;rw[h1,part,if_pos hx];rfl
   ·rcases List.mem_cons.1 hy with e|hy
    ·exact e
    ·exact absurd hp (h2 y hy)
  ·simp[hx]at h
   obtain⟨z,hz,hz0,hs,ha⟩:=ih h;refine⟨z,List.mem_cons_of_mem _ hz,hz0,?_,fun y hy hp=>?_⟩
   ·simp only[csum,List.map_cons,List.sum_cons]
    simp only[csum]at hs;rw[hs,part,if_neg hx,Nat.zero_add]
   ·rcases List.mem_cons.1 hy with e|hy
    ·rw[e]at hp;exact absurd hp hx
    ·exact ha y hy hp
theorem pow11 (n:Nat) (h1:1<=n) (h:2 ^ (12-n)=2048):n=1:=by
 rcases Nat.lt_or_ge n 13 with h13|h13
 ·have:n=1∨n=2∨n=3∨n=4∨n=5∨n=6∨n=7∨n=8∨n=9∨n=10∨n=11∨n=12:=by omega
  rcases this with rfl|rfl|rfl|rfl|rfl|rfl|rfl|rfl|rfl|rfl|rfl|rfl<;>first|rfl|(simp at h)
 ·rw[show 12-n=0 by omega]at h
  simp at h
theorem alone (l:List Int) (h:above l=1):l.contains 1=decide (csum l=2048):=by
 obtain⟨x,hx,hx0,hs,ha⟩:=above_one l h;by_cases e:x=1
 ·subst e
  rw[List.contains_iff_mem.2 hx,hs];rfl
 ·have h1:¬(1:Int)∈l:=fun hm=>e (ha 1 hm (by decide)).symm
  have h2:¬csum l=2048:=by
   rw[hs];intro h3
   have:=pow11 x.toNat (by omega) h3
   omega
  rw[decide_eq_false h2]
  cases hc:l.contains 1 with
  |false=>rfl
  |true=>exact absurd (List.contains_iff_mem.1 hc) h1
def right (l:List Int):Bool:=within l 12 && decide (csum l<=4096)
def whole (l:List Int):Bool:=right l && (decide (csum l=4096) || decide (above l=1) && decide (csum l=2048))
theorem right_yes {l:List Int} (h:right l=true):within l 12=true/\csum l<=4096:=by
 unfold right at h;rw[Bool.and_eq_true]at h;exact⟨h.1,of_decide_eq_true h.2⟩
theorem right_of {l:List Int} (h1:within l 12=true) (h2:csum l<=4096):right l=true:=by
 unfold right;rw[h1,decide_eq_true h2];rfl
theorem right_no {l:List Int} (h:within l 12=false∨¬csum l<=4096):right l=false:=by
 unfold right
 rcases h with h|h
 ·rw[h];rfl
 ·rw[decide_eq_false h,Bool.and_false]
theorem whole_no {l:List Int} (h:right l=false):whole l=false:=by unfold whole;rw[h];rfl
theorem shr_part (n:Nat) (h1:1<=n) (h2:n<=12):(4096:Int)/2 ^ n=((2 ^ (12-n):Nat):Int):=by
 have:n=1∨n=2∨n=3∨n=4∨n=5∨n=6∨n=7∨n=8∨n=9∨n=10∨n=11∨n=12:=by omega
 rcases this with rfl|rfl|rfl|rfl|rfl|rfl|rfl|rfl|rfl|rfl|rfl|rfl<;>rfl
end Bi
namespace Ze
theorem hideZ {p:Prop} (h:p):Hid p:=h
def zrun (r:Nat):List Int :=
 if r=0 then [] else if r%2=1 then 0 :: zrun ((r-1)/2) else 1 :: zrun ((r-2)/2)
termination_by r
decreasing_by all_goals omega
theorem zrun_zero:zrun 0=[]:=by rw[zrun];rfl
theorem zrun_odd {r:Nat} (h:r%2=1):zrun r=0 :: zrun ((r-1)/2):=by
 rw[zrun,if_neg (by omega),if_pos h]
theorem zrun_even {r:Nat} (h0:0<r) (h:¬r%2=1):zrun r=1 :: zrun ((r-2)/2):=by
 rw[zrun,if_neg (by omega),if_neg h]
theorem zrun_len (r:Nat):(zrun r).length<=r:=by
 induction r using Nat.strongRecOn with
 |ind r ih =>
  by_cases h0:r=0
  ·subst h0;rw[zrun_zero];exact nl
  ·by_cases h1:r%2=1
   ·rw[zrun_odd h1,List.length_cons]
    have:=ih ((r-1)/2) (by omega)
    omega
   ·rw[zrun_even (by omega) h1,List.length_cons]
    have:=ih ((r-2)/2) (by omega)
    omega
theorem zrun_mem (r:Nat):∀ x∈zrun r,x=0∨x=1:=by
 induction r using Nat.strongRecOn with
 |ind r ih =>
  intro x hx;by_cases h0:r=0
  ·subst h0;rw[zrun_zero]at hx;cases hx
  ·by_cases h1:r%2=1
   ·rw[zrun_odd h1]at hx
    rcases List.mem_cons.1 hx with e|hx
    ·exact .inl e
    ·exact ih ((r-1)/2) (by omega) x hx
   ·rw[zrun_even (by omega) h1]at hx
    rcases List.mem_cons.1 hx with e|hx
    ·exact .inr e
    ·exact ih ((r-2)/2) (by omega) x hx
def upTo (l:List Int) (m:Int):Bool:=decide (∀ x∈l,0<=x/\x<=m)
theorem upTo_yes {l:List Int} {m:Int} (h:upTo l m=true):∀ x∈l,0<=x/\x<=m:=of_decide_eq_true h
theorem upTo_of {l:List Int} {m:Int} (h:∀ x∈l,0<=x/\x<=m):upTo l m=true:=decide_eq_true h
theorem upTo_bad {l:List Int} {m:Int} {j:Nat} (hj:j<l.length) (h:l[j]<0∨m<l[j]):upTo l m=false:=decide_eq_false fun x=>by
 have:=x _ (List.getElem_mem hj)
 omega
def numsR (l:List Int) (m:Int):Bool:=decide (l.length<=400) && upTo l m
theorem numsR_yes {l:List Int} {m:Int} (h:numsR l m=true):l.length<=400/\upTo l m=true:=by
 unfold numsR at h;rw[Bool.and_eq_true]at h;exact⟨of_decide_eq_true h.1,h.2⟩
theorem numsR_long {l:List Int} {m:Int} (h:400<l.length):numsR l m=false:=by
 unfold numsR;rw[decide_eq_false (by omega)];rfl
theorem numsR_of {l:List Int} {m:Int} (h:l.length<=400):numsR l m=upTo l m:=by
 unfold numsR;rw[decide_eq_true h];rfl
def zstep (s:List Int × Nat) (n:Int):List Int × Nat:=if n=0 then (s.1,s.2+1) else (s.1++zrun s.2++[n+1],0)
def zst (l:List Int):List Int × Nat:=l.foldl zstep ([],0)
theorem zst_more {l:List Int} {k:Nat} (h:k<l.length):zst (l.take (k+1))=zstep (zst (l.take k)) l[k]:=by
 unfold zst;rw[Bi.take_more h,List.foldl_append];rfl
theorem zst_zero {l:List Int} {k:Nat} (h:k<l.length) (h0:l[k]=0):zst (l.take (k+1))=((zst (l.take k)).1,(zst (l.take k)).2+1):=by
 rw[zst_more h,zstep,if_pos h0]
theorem zst_other {l:List Int} {k:Nat} (h:k<l.length) (h0:¬l[k]=0):zst (l.take (k+1))=((zst (l.take k)).1++zrun (zst (l.take k)).2++[l[k]+1],0):=by
 rw[zst_more h,zstep,if_neg h0]
theorem zst_len (l:List Int):(zst l).1.length+(zst l).2<=l.length:=by
 suffices h:∀ k,k<=l.length->(zst (l.take k)).1.length+(zst (l.take k)).2<=k by
  have:=h l.length nl
  rwa[List.take_length]at this
 intro k
 induction k with
 |zero=>intro _;simp[zst]
 |succ k ih =>
  intro hk
  have:=ih (by omega)
  by_cases h0:l[k]=0
  ·rw[zst_zero hk h0]
   simp only
   omega
  ·rw[zst_other hk h0]
   have hz:=zrun_len (zst (l.take k)).2;simp only[List.length_append,List.length_cons,List.length_nil];omega
def zerosR (l:List Int):List Int:=if numsR l 255=true then (zst l).1++zrun (zst l).2 else []
theorem zerosR_yes {l:List Int} (h:numsR l 255=true):zerosR l=(zst l).1++zrun (zst l).2:=if_pos h
theorem zerosR_no {l:List Int} (h:numsR l 255=false):zerosR l=[]:=if_neg (by rw[h];decide)
theorem zerosR_len (l:List Int):(zerosR l).length<=l.length:=by
 unfold zerosR
 split
 ·rw[List.length_append]
  have:=zst_len l
  have:=zrun_len (zst l).2
  omega
 ·exact Nat.zero_le _
def bstep (s:List Int × Nat) (n:Int):List Int × Nat:=if 1<n then (s.1++[n-1],1) else (s.1++List.replicate ((n.toNat+1)*s.2) 0,s.2*2)
def bst (l:List Int):List Int × Nat:=l.foldl bstep ([],1)
theorem bst_more {l:List Int} {k:Nat} (h:k<l.length):bst (l.take (k+1))=bstep (bst (l.take k)) l[k]:=by
 unfold bst;rw[Bi.take_more h,List.foldl_append];rfl
theorem bst_one {l:List Int} {k:Nat} (h:k<l.length) (h0:1<l[k]):bst (l.take (k+1))=((bst (l.take k)).1++[l[k]-1],1):=by
 rw[bst_more h,bstep,if_pos h0]
theorem bst_zeros {l:List Int} {k:Nat} (h:k<l.length) (h0:¬1<l[k]):bst (l.take (k+1))=((bst (l.take k)).1++List.replicate ((l[k].toNat+1)*(bst (l.take k)).2) 0,(bst (l.take k)).2*2):=by
 rw[bst_more h,bstep,if_neg h0]
theorem bst_worth (l:List Int):∀ k,k<=l.length->1<=(bst (l.take k)).2/\(bst (l.take k)).2<=(bst (l.take k)).1.length+1:=by
 intro k
 induction k with
 |zero=>intro _;simp[bst]
 |succ k ih =>
  intro hk;obtain⟨h1,h2⟩:=ih (by omega);by_cases h0:1<l[k]
  ·rw[bst_one hk h0]
   simp only[List.length_append,List.length_cons,List.length_nil];omega
  ·rw[bst_zeros hk h0]
   simp only[List.length_append,List.length_replicate];generalize (bst (l.take k)).2=wo at h1 h2 ⊢
   have:wo<=(l[k].toNat+1)*wo:=Nat.le_mul_of_pos_left _ (by omega)
   omega
theorem bst_grow {l:List Int} {k:Nat} (h:k<l.length):(bst (l.take k)).1.length<=(bst (l.take (k+1))).1.length:=by
 by_cases h0:1<l[k]
 ·rw[bst_one h h0]
  simp only[List.length_append];omega
 ·rw[bst_zeros h h0]
  simp only[List.length_append];omega
theorem bst_mono (l:List Int) (j:Nat):∀ k,j<=k->k<=l.length->(bst (l.take j)).1.length<=(bst (l.take k)).1.length:=by
 intro k
 induction k with
 |zero=>intro h _;rw[show j=0 by omega];exact nl
 |succ k ih =>
  intro h hk
  rcases Nat.lt_or_ge k j with hj|hj
  ·rw[show j=k+1 by omega];exact nl
  ·exact Nat.le_trans (ih hj (by omega)) (bst_grow hk)
def backR (l:List Int):List Int:=if numsR l 256=true/\(bst l).1.length<=400 then (bst l).1 else []
theorem backR_yes {l:List Int} (h:numsR l 256=true) (h2:(bst l).1.length<=400):backR l=(bst l).1:=if_pos ⟨h,h2⟩
theorem backR_no {l:List Int} (h:numsR l 256=false):backR l=[]:=if_neg fun x=>by rw[h]at x;exact absurd x.1 (by decide)
theorem backR_long {l:List Int} {k:Nat} (hk:k<=l.length) (h2:400<(bst (l.take k)).1.length):backR l=[]:=if_neg fun x=>by
 have:=bst_mono l k l.length hk nl
 rw[List.take_length]at this
 have:=x.2
 omega
theorem backR_len (l:List Int):(backR l).length<=400:=by
 unfold backR
 split
 ·rename_i h;exact h.2
 ·simp
end Ze
namespace In
def IsNums (w:World) (a:Option Addr) (len cap:Nat) (zs:List Int):Prop :=
 (a=none/\len=0/\cap=0/\zs=[]) ∨
 ∃ x,a=some x/\len<=cap/\cap<=maxLen/\zs.length=cap/\(∀ i,i<zs.length->w.cell? (x.add i)=some (.int .i64 (zs.getD i 0)))/\∀ n∈zs,(Lit.int .i64 n).wf=true
def Wf (l:List Int):Prop:=∀ n∈l,-9223372036854775808<=n/\n<=9223372036854775807
end In
namespace Bi
open In (Ints)
open Ze (upTo upTo_yes upTo_of upTo_bad)
theorem upTo_impl (l:List Int) (m:Int) (a:Option Addr) (cap B:Nat) (w:World) (hi:Ints w B a l) (hn:l.length<=1048576) :
  Calls prog 157 #[.slice a l.length cap,.int .i64 m] w fun e w'=>e=.returned (.bool (upTo l m))/\w'=w:=by
 have HS:=hideB hi;clear hi;obtain⟨n,hln⟩:∃ n,n=l.length:=⟨_,rfl⟩;have HLN:=hideB hln;rw[<-hln]at hn ⊢;clear hln;go_enter func157,ntmps157
 go_wp2_with fail
 go_loopw [9] (fun i wr=>∃ k:Nat,i=.int .i64 k/\k<=n/\(∀ j (hj:j<l.length),j<k->0<=l[j]/\l[j]<=m)/\wr=w) (fun i _=>n-(intOf i).toNat)
 case atStart=>exact⟨0,rfl,Nat.zero_le _,fun j hj h0=>absurd h0 (Nat.not_lt_zero j),rfl⟩
 case round =>
  obtain⟨k,rfl,hk,hall,hw⟩:=hrel;subst hw;have HA:=hideB hall;clear hall;by_cases hlt:k<n
  ·have hkl:k<l.length:=by rw[<-HLN.o];exact hlt
   obtain⟨b,off,rfl,hb,hc⟩:=HS.o.some (by omega);have ci:=hc k hkl;obtain⟨x,hx⟩:∃ x,x=l[k]:=⟨_,rfl⟩;have HX:=hideB hx;rw[<-hx]at ci;clear hc hx;by_cases h0:x<0
   ·have HE:=hideB (upTo_bad (m:=m) hkl (by rw[<-HX.o];exact Or.inl h0))
    (go_wp2_with fail);go_ret;exact⟨ret_boolB HE.o.symm,rfl⟩
   ·by_cases h1:m<x
    ·have HE:=hideB (upTo_bad (m:=m) hkl (by rw[<-HX.o];exact Or.inr h1))
     have hd0:decide (x<0)=false:=decide_eq_false h0;(go_wp2_with fail);go_ret;exact⟨ret_boolB HE.o.symm,rfl⟩
    ·have hd0:decide (x<0)=false:=decide_eq_false h0
     have hd1:decide (m<x)=false:=decide_eq_false h1;(go_wp2_with fail)
     go_roundw
     case rel =>
      refine⟨k+1,by go_num,by omega,fun j hj hjk=>?_,trivial⟩;by_cases e:j=k
      ·subst e
       rw[<-HX.o];omega
      ·exact HA.o j hj (by omega)
     case measure=>simp[intOf];omega
  ·have HE:Hid (upTo l m=true):=upTo_of (fun x hx=>by
    obtain⟨j,hj,rfl⟩:=List.getElem_of_mem hx
    exact HA.o j hj (by have:=HLN.o;omega))
   go_wp2_with fail
   go_ret;exact⟨ret_boolB HE.o.symm,rfl⟩
theorem within_upTo {l:List Int} {m:Int} (h:l.length<=257):within l m=upTo l m:=by
 unfold within upTo;exact decide_eq_decide.2 ⟨fun x=>x.2,fun x=>⟨h,x⟩⟩
theorem within_impl (l:List Int) (m:Int) (a:Option Addr) (cap B:Nat) (w:World) (hi:Ints w B a l) (hn:l.length<=1048576) :
  Calls prog 161 #[.slice a l.length cap,.int .i64 m] w fun e w'=>e=.returned (.bool (within l m))/\w'=w:=by
 by_cases hlong:257<l.length
 ·have HE:=hideB (within_long (l:=l) (m:=m) hlong)
  clear hi;generalize l.length=n at hlong hn ⊢;have hd:decide ((n:Int)<=257)=false:=decide_eq_false (by omega);go_enter func161,ntmps161
  go_wp2_with fail
  go_ret;exact⟨ret_boolB HE.o.symm,rfl⟩
 ·have HU:=hideB (upTo_impl l m a cap B w hi hn)
  have HE:=hideB (within_upTo (m:=m) (show l.length<=257 by omega));clear hi;generalize l.length=n at hlong hn HU ⊢;generalize upTo l m=u at HU HE
  have hd:(n:Int)<=257:=by omega
  go_enter func161,ntmps161
  go_wp2_with fail
  refine HU.o.mono ?_;rintro e w' ⟨rfl,hw⟩;subst w'
  go_wp2_with fail
  go_ret;exact⟨ret_boolB HE.o.symm,rfl⟩
theorem part_pos (x:Int) (h0:0<x) (h2:x<=12):∃ n:Nat,x=n/\1<=n/\n<=12/\part x=2 ^ (12-n):=⟨x.toNat,by omega,by omega,by omega,by unfold part;rw[if_pos h0]⟩
theorem part_none (x:Int) (h0:¬0<x):part x=0:=if_neg h0
theorem sum_impl (l:List Int) (a:Option Addr) (cap B:Nat) (w:World) (hi:Ints w B a l) (hr:within l 12=true) :
  Calls prog 200 #[.slice a l.length cap] w fun e w'=>e=.returned (.int .i64 (csum l:Nat))/\w'=w:=by
 have HS:=hideB hi;have HW:=hideB (within_yes hr).2;have hn:=(within_yes hr).1;clear hi hr;obtain⟨n,hln⟩:∃ n,n=l.length:=⟨_,rfl⟩;have HLN:=hideB hln;rw[<-hln]at hn ⊢;clear hln;go_enter func200,ntmps200
 go_wp2_with fail
 go_loopw [8,3] (fun i v wr=>∃ k s:Nat,i=.int .i64 k/\v=.int .i64 s/\k<=n/\s=csum (l.take k)/\s<=4096*k/\wr=w) (fun i _ _=>n-(intOf i).toNat)
 case atStart=>exact⟨0,0,rfl,rfl,Nat.zero_le _,by simp[csum],by omega,rfl⟩
 case round =>
  obtain⟨k,s,rfl,rfl,hk,hs,hsb,hw⟩:=hrel;subst hw;have HC:=hideB hs;clear hs;by_cases hlt:k<n
  ·have hkl:k<l.length:=by rw[<-HLN.o];exact hlt
   obtain⟨b,off,rfl,hb,hc⟩:=HS.o.some (by omega);have ci:=hc k hkl;have HM:=hideB (csum_more hkl);have hx12:=HW.o _ (List.getElem_mem hkl);obtain⟨x,hx⟩:∃ x,x=l[k]:=⟨_,rfl⟩;rw[<-hx]at ci hx12 HM;clear hc hx;by_cases h0:0<x
   ·obtain⟨m,rfl,hm1,hm2,hp⟩:=part_pos x h0 hx12.2
    have hsh:=shr_part m hm1 hm2;have hp2:2 ^ (12-m)<=4096:=(by have:=part_le (m:Int);rw[hp]at this;exact this);have HP:=hideB hp;clear hp;generalize 2 ^ (12-m)=pm at hsh hp2 HP;(go_wp2_with fail)
    go_roundw
    case rel=>exact⟨k+1,s+pm,by go_num,by go_num,by omega,by rw[HM.o,HP.o,HC.o],by omega,trivial⟩
    case measure=>simp[intOf];omega
   ·have HP:=hideB (part_none x h0)
    (go_wp2_with fail)
    go_roundw
    case rel=>exact⟨k+1,s,by go_num,rfl,by omega,by rw[HM.o,HP.o,HC.o];rfl,by omega,trivial⟩
    case measure=>simp[intOf];omega
  ·have HE:Hid (s=csum l):=by
    unfold Hid;rw[HC.o,List.take_of_length_le (by have:=HLN.o;omega)]
   go_wp2_with fail
   go_ret;exact⟨by rw[<-HE.o];rfl,rfl⟩
theorem count_impl (l:List Int) (a:Option Addr) (cap B:Nat) (w:World) (hi:Ints w B a l) (hn:l.length<=1048576) :
  Calls prog 122 #[.slice a l.length cap] w fun e w'=>e=.returned (.int .i64 (above l:Nat))/\w'=w:=by
 have HS:=hideB hi;clear hi;obtain⟨n,hln⟩:∃ n,n=l.length:=⟨_,rfl⟩;have HLN:=hideB hln;rw[<-hln]at hn ⊢;clear hln;go_enter func122,ntmps122
 go_wp2_with fail
 go_loopw [8,3] (fun i v wr=>∃ k s:Nat,i=.int .i64 k/\v=.int .i64 s/\k<=n/\s=above (l.take k)/\s<=k/\wr=w) (fun i _ _=>n-(intOf i).toNat)
 case atStart=>exact⟨0,0,rfl,rfl,Nat.zero_le _,by simp[above],by omega,rfl⟩
 case round =>
  obtain⟨k,s,rfl,rfl,hk,hs,hsb,hw⟩:=hrel;subst hw;have HC:=hideB hs;clear hs;by_cases hlt:k<n
  ·have hkl:k<l.length:=by rw[<-HLN.o];exact hlt
   obtain⟨b,off,rfl,hb,hc⟩:=HS.o.some (by omega);have ci:=hc k hkl;have HM:=hideB (above_more hkl);obtain⟨x,hx⟩:∃ x,x=l[k]:=⟨_,rfl⟩;rw[<-hx]at ci HM;clear hc hx;by_cases h0:0<x
   ·have HM2:Hid (above (l.take (k+1))=s+1):=by
     unfold Hid;rw[HM.o,if_pos h0,HC.o]
    (go_wp2_with fail)
    go_roundw
    case rel=>exact⟨k+1,s+1,by go_num,by go_num,by omega,HM2.o.symm,by omega,trivial⟩
    case measure=>simp[intOf];omega
   ·have HM2:Hid (above (l.take (k+1))=s):=by
     unfold Hid;rw[HM.o,if_neg h0,HC.o];rfl
    (go_wp2_with fail)
    go_roundw
    case rel=>exact⟨k+1,s,by go_num,rfl,by omega,HM2.o.symm,by omega,trivial⟩
    case measure=>simp[intOf];omega
  ·have HE:Hid (s=above l):=by
    unfold Hid;rw[HC.o,List.take_of_length_le (by have:=HLN.o;omega)]
   go_wp2_with fail
   go_ret;exact⟨by rw[<-HE.o];rfl,rfl⟩
theorem index_impl (l:List Int) (y:Int) (a:Option Addr) (cap B:Nat) (w:World) (hi:Ints w B a l) (hn:l.length<=1048576) :
  Calls prog 226 #[.slice a l.length cap,.int .i64 y] w fun e w'=>(∃ r:Int,e=.returned (.int .i64 r)/\Hid (l.contains y=decide (0<=r)))/\w'=w:=by
 have HS:=hideB hi;clear hi;obtain⟨n,hln⟩:∃ n,n=l.length:=⟨_,rfl⟩;have HLN:=hideB hln;rw[<-hln]at hn ⊢;clear hln;go_enter func226,ntmps226
 go_wp2_with fail
 go_loopw [8] (fun i wr=>∃ k:Nat,i=.int .i64 k/\k<=n/\(∀ j (hj:j<l.length),j<k->l[j]≠y)/\wr=w) (fun i _=>n-(intOf i).toNat)
 case atStart=>exact⟨0,rfl,Nat.zero_le _,fun j hj h0=>absurd h0 (Nat.not_lt_zero j),rfl⟩
 case round =>
  obtain⟨k,rfl,hk,hall,hw⟩:=hrel;subst hw;have HA:=hideB hall;clear hall;by_cases hlt:k<n
  ·have hkl:k<l.length:=by rw[<-HLN.o];exact hlt
   obtain⟨b,off,rfl,hb,hc⟩:=HS.o.some (by omega);have ci:=hc k hkl;obtain⟨x,hx⟩:∃ x,x=l[k]:=⟨_,rfl⟩;have HX:=hideB hx;rw[<-hx]at ci;clear hc hx;by_cases h0:y=x
   ·have hb:(y==x)=true:=beq_iff_eq.2 h0
    have HE:Hid (l.contains y=true):=by
     unfold Hid;rw[List.contains_iff_mem,h0,HX.o];exact List.getElem_mem hkl
    clear h0;(go_wp2_with fail);go_ret;exact⟨⟨k,rfl,HE.o.trans (decide_eq_true (by omega)).symm⟩,rfl⟩
   ·have hb:(y==x)=false:=beq_eq_false_iff_ne.2 h0
    have HNE:=hideB h0;clear h0;(go_wp2_with fail)
    go_roundw
    case rel =>
     refine⟨k+1,by go_num,by omega,fun j hj hjk=>?_,trivial⟩;by_cases e:j=k
     ·subst e
      rw[<-HX.o];exact fun h=>HNE.o h.symm
     ·exact HA.o j hj (by omega)
    case measure=>simp[intOf];omega
  ·have HE:Hid (l.contains y=false):=by
    unfold Hid;rw[Bool.eq_false_iff,Ne,List.contains_iff_mem];intro hm;obtain⟨j,hj,e⟩:=List.getElem_of_mem hm;exact HA.o j hj (by have:=HLN.o;omega) e
   go_wp2_with fail
   go_ret;exact⟨⟨-1,rfl,HE.o⟩,rfl⟩
theorem contains_impl (l:List Int) (y:Int) (a:Option Addr) (cap B:Nat) (w:World) (hi:Ints w B a l) (hn:l.length<=1048576) :
  Calls prog 199 #[.slice a l.length cap,.int .i64 y] w fun e w'=>e=.returned (.bool (l.contains y))/\w'=w:=by
 have HI:=hideB (index_impl l y a cap B w hi hn);clear hi;generalize l.length=n at HI hn ⊢;generalize l.contains y=c at HI ⊢;go_enter func199,ntmps199
 go_wp2_with fail
 refine HI.o.mono ?_;rintro e w' ⟨⟨r,rfl,hr⟩,hw⟩;subst w';by_cases h0:0<=r
 ·have HE:Hid (c=true):=hr.o.trans (decide_eq_true h0)
  clear hr
  go_wp2_with fail
  go_ret;exact⟨ret_boolB HE.o.symm,rfl⟩
 ·have HE:Hid (c=false):=hr.o.trans (decide_eq_false h0)
  have HR:=hideB hr.o;clear hr
  go_wp2_with fail
  go_ret;exact⟨ret_boolB (by first|exact HE.o.symm|exact HR.o.symm),rfl⟩
theorem right_impl (l:List Int) (a:Option Addr) (cap B:Nat) (w:World) (hi:Ints w B a l) (hn:l.length<=1048576) :
  Calls prog 198 #[.slice a l.length cap] w fun e w'=>e=.returned (.bool (right l))/\w'=w:=by
 have HW:=hideB (within_impl l 12 a cap B w hi hn)
 cases hw:within l 12 with
 |false =>
  have HE:=hideB (right_no (l:=l) (Or.inl hw));rw[hw]at HW;clear hi hw;generalize l.length=n at HW hn ⊢;go_enter func198,ntmps198
  go_wp2_with fail
  refine HW.o.mono ?_;rintro e w' ⟨rfl,hw⟩;subst w'
  go_wp2_with fail
  go_ret;exact⟨ret_boolB HE.o.symm,rfl⟩
 |true =>
  have HC:=hideB (sum_impl l a cap B w hi hw);by_cases hs:csum l<=4096
  ·have HE:=hideB (right_of hw hs)
   rw[hw]at HW;clear hi hw;generalize l.length=n at HW HC hn ⊢;generalize csum l=c at HC hs
   have hs':(c:Int)<=4096:=by omega
   go_enter func198,ntmps198
   go_wp2_with fail
   refine HW.o.mono ?_;rintro e w' ⟨rfl,hw⟩;subst w'
   go_wp2_with fail
   refine HC.o.mono ?_;rintro e w' ⟨rfl,hw⟩;subst w'
   go_wp2_with fail
   go_ret;exact⟨ret_boolB HE.o.symm,rfl⟩
  ·have HE:=hideB (right_no (l:=l) (Or.inr hs))
   rw[hw]at HW;clear hi hw;generalize l.length=n at HW HC hn ⊢;generalize csum l=c at HC hs;have hs':decide ((c:Int)<=4096)=false:=decide_eq_false (by omega);go_enter func198,ntmps198
   go_wp2_with fail
   refine HW.o.mono ?_;rintro e w' ⟨rfl,hw⟩;subst w'
   go_wp2_with fail
   refine HC.o.mono ?_;rintro e w' ⟨rfl,hw⟩;subst w'
   go_wp2_with fail
   go_ret;exact⟨ret_boolB HE.o.symm,rfl⟩
end Bi
namespace Bi
open Sh
def good (t:ByteArray):Bool:=decide (∀ j,j<t.size->bt t j=48∨bt t j=49)
theorem good_yes {t:ByteArray} (h:good t=true):∀ j,j<t.size->bt t j=48∨bt t j=49:=of_decide_eq_true h
theorem good_of {t:ByteArray} (h:∀ j,j<t.size->bt t j=48∨bt t j=49):good t=true:=decide_eq_true h
theorem good_not {t:ByteArray} {j:Nat} (h:j<t.size) (h1:bt t j≠48) (h2:bt t j≠49):good t=false:=decide_eq_false fun g=>by
 rcases g j h with e|e
 ·exact h1 e
 ·exact h2 e
def one (t:ByteArray) (i:Nat):Nat:=if i<t.size/\bt t i=49 then 1 else 0
def pk (t:ByteArray) (q:Nat):Nat->Nat
 |0=>0
 |r+1=>pk t q r+one t (8*q+r)*2 ^ (7-r)
theorem one_le (t:ByteArray) (i:Nat):one t i<=1:=by unfold one;split<;>omega
theorem pk_mul (t:ByteArray) (q:Nat):∀ r,r<=8->∃ n,pk t q r=n*2 ^ (8-r)/\n<2 ^ r:=by
 intro r
 induction r with
 |zero=>intro _;exact⟨0,by simp[pk],by decide⟩
 |succ r ih =>
  intro hr;obtain⟨n,h1,h2⟩:=ih (by omega);have h3:=one_le t (8*q+r);refine⟨2*n+one t (8*q+r),?_,by rw[Nat.pow_succ];omega⟩
  have e:8-r=7-r+1:=by omega
  have e2:8-(r+1)=7-r:=by omega
  simp only[pk];rw[h1,e,Nat.pow_succ,e2,Nat.add_mul,Nat.mul_comm (2 ^ (7-r)) 2,<-Nat.mul_assoc,Nat.mul_comm n 2]
theorem pk_lt (t:ByteArray) (q r:Nat) (hr:r<=8):pk t q r<256:=by
 obtain⟨n,h1,h2⟩:=pk_mul t q r hr;rw[h1];have h3:n*2 ^ (8-r)<2 ^ r*2 ^ (8-r):=Nat.mul_lt_mul_of_pos_right h2 (Nat.pow_pos (by decide));rw[<-Nat.pow_add,show r+(8-r)=8 by omega]at h3;omega
def packV (t:ByteArray):ByteArray:=strF ((t.size+7)/8) (fun q=>pk t q 8)
def packR (t:ByteArray):ByteArray:=if 8000<t.size∨good t=false then ⟨#[]⟩ else packV t
theorem packR_no (t:ByteArray) (h:8000<t.size∨good t=false):packR t=⟨#[]⟩:=if_pos h
theorem packR_yes (t:ByteArray) (h:¬8000<t.size) (h2:good t=true):packR t=packV t:=if_neg (by rw[h2];simp;omega)
def pkK (t:ByteArray) (k q:Nat):Nat:=pk t q (min 8 (k-8*q))
theorem pkK_lt (t:ByteArray) (k q:Nat):pkK t k q<256:=pk_lt t q _ (Nat.min_le_left _ _)
theorem pkK_zero (t:ByteArray) (q:Nat):pkK t 0 q=0:=by simp[pkK,pk]
theorem pkK_other (t:ByteArray) (k q:Nat) (h:q≠k/8):pkK t (k+1) q=pkK t k q:=by
 unfold pkK
 congr 1
 omega
theorem pkK_here (t:ByteArray) (k:Nat):pkK t k (k/8)=pk t (k/8) (k%8):=by
 unfold pkK
 congr 1
 omega
theorem pkK_next (t:ByteArray) (k:Nat):pkK t (k+1) (k/8)=pk t (k/8) (k%8)+one t k*2 ^ (7-k%8):=by
 have e:min 8 (k+1-8*(k/8))=k%8+1:=by omega
 unfold pkK;rw[e];simp only[pk];rw[show 8*(k/8)+k%8=k by omega]
theorem pkK_set (t:ByteArray) (k q:Nat) (v:Int) (h:one t k=1) (hv:v=((pk t (k/8) (k%8)+2 ^ (7-k%8):Nat):Int)):upd (fun j=>((pkK t k j:Nat):Int)) (k/8) v q=(pkK t (k+1) q:Nat):=by
 subst hv;unfold upd;by_cases e:q=k/8
 ·subst e
  rw[if_pos rfl,pkK_next,h,Nat.one_mul]
 ·rw[if_neg e,pkK_other t k q e]
theorem pkK_skip (t:ByteArray) (k q:Nat) (h:one t k=0):((pkK t k q:Nat):Int)=(pkK t (k+1) q:Nat):=by
 by_cases e:q=k/8
 ·subst e
  rw[pkK_next,h,Nat.zero_mul,pkK_here];rfl
 ·rw[pkK_other t k q e]
theorem one_behind (t:ByteArray) (i:Nat) (h:t.size<=i):one t i=0:=by unfold one;rw[if_neg (by omega)]
theorem pk_behind (t:ByteArray) (q r:Nat) (h:t.size<=8*q+r):∀ d,pk t q (r+d)=pk t q r:=by
 intro d
 induction d with
 |zero=>rfl
 |succ d ih =>
  rw[<-Nat.add_assoc];simp only[pk];rw[one_behind t _ (by omega),ih];omega
theorem pkK_all (t:ByteArray) (q:Nat):pkK t t.size q=pk t q 8:=by
 unfold pkK;by_cases e:8<=t.size-8*q
 ·rw[Nat.min_eq_left e]
 ·have e2:min 8 (t.size-8*q)=t.size-8*q:=Nat.min_eq_right (by omega)
  rw[e2]
  have:=pk_behind t q (t.size-8*q) (by omega) (8-(t.size-8*q))
  rw[show t.size-8*q+(8-(t.size-8*q))=8 by omega]at this;exact this.symm
theorem pack_all (t:ByteArray):strF ((t.size+7)/8) (fun q=>pkK t t.size q)=packV t:=strF_congr _ _ _ fun q _=>pkK_all t q
theorem pk_or (t:ByteArray) (q r:Nat) (h:r<8):bits BinOp.or IntKind.u8 ((pk t q r:Nat):Int) ((2 ^ (7-r):Nat):Int)=((pk t q r+2 ^ (7-r):Nat):Int):=by
 obtain⟨n,h1,h2⟩:=pk_mul t q r (by omega);have h3:=pk_lt t q r (by omega)
 have h4:2 ^ (7-r)<256:=by
  have:=Nat.pow_le_pow_right (n:=2) (by decide) (show 7-r<=7 by omega)
  omega
 rw[u8_or_nat _ _ h3 h4]
 rw[nat_join (8-r) (pk t q r) (2 ^ (7-r)) (by rw[h1];exact Nat.mul_mod_left _ _) (by
  have e:8-r=7-r+1:=by omega
  rw[e,Nat.pow_succ]
  have:=Nat.pow_pos (n:=7-r) (a:=2) (by decide)
  omega)]
def hd (t:ByteArray) (q:Nat):Nat->Nat
 |0=>0
 |r+1=>2*hd t q r+one t (8*q+r)
theorem hd_pk (t:ByteArray) (q:Nat):∀ r,r<=8->pk t q r=hd t q r*2 ^ (8-r):=by
 intro r
 induction r with
 |zero=>intro _;simp[pk,hd]
 |succ r ih =>
  intro hr;simp only[pk,hd];rw[ih (by omega),show 8-r=7-r+1 by omega,Nat.pow_succ,show 8-(r+1)=7-r by omega,Nat.add_mul,Nat.mul_comm (2 ^ (7-r)) 2,<-Nat.mul_assoc,Nat.mul_comm (hd t q r) 2]
theorem hd_all (t:ByteArray) (q:Nat):hd t q 8=pk t q 8:=by
 have:=hd_pk t q 8 nl
 simpa using this.symm
theorem hd_lt (t:ByteArray) (q:Nat):∀ r,hd t q r<2 ^ r:=by
 intro r
 induction r with
 |zero=>exact Nat.lt_succ_self 0
 |succ r ih =>
  have:=one_le t (8*q+r)
  simp only[hd];rw[Nat.pow_succ];omega
theorem hd_le (t:ByteArray) (q r:Nat) (h:r<=8):hd t q r<256:=by
 have h1:=hd_lt t q r;have h2:=Nat.pow_le_pow_right (n:=2) (by decide) h;omega
def openV (t:ByteArray) (m:Nat):ByteArray:=strF m (fun i=>bitB (bt t (i/8)) (7-i%8))
def openR (t:ByteArray) (m:Int):ByteArray:=if 8000<t.size∨m<0∨8*(t.size:Int)<m then ⟨#[]⟩ else openV t m.toNat
theorem openR_no (t:ByteArray) (m:Int) (h:8000<t.size∨m<0∨8*(t.size:Int)<m):openR t m=⟨#[]⟩:=if_pos h
theorem openR_yes (t:ByteArray) (m:Nat) (h:¬8000<t.size) (h2:m<=8*t.size):openR t m=openV t m:=by
 unfold openR;rw[if_neg (by omega)];rfl
def opK (t:ByteArray) (k i:Nat):Nat:=if i<k then bitB (bt t (i/8)) (7-i%8) else 0
theorem opK_zero (t:ByteArray) (j:Nat):opK t 0 j=0:=by simp[opK]
theorem opK_next (t:ByteArray) (k j:Nat) (v:Int) (hv:v=(bitB (bt t (k/8)) (7-k%8):Nat)):upd (fun j=>((opK t k j:Nat):Int)) k v j=(opK t (k+1) j:Nat):=by
 subst hv;unfold upd opK;by_cases e:j=k
 ·subst e;simp
 ·have:(j<k+1)=(j<k):=propext ⟨fun h=>by omega,fun h=>by omega⟩
  simp only[e,this,if_false]
theorem opK_all (t:ByteArray) (m:Nat):strF m (fun j=>opK t m j)=openV t m:=strF_congr _ _ _ fun j hj=>by simp[opK,hj]
theorem opK_lt (t:ByteArray) (k j:Nat):opK t k j<256:=by
 unfold opK
 have:=bitB_lt (bt t (j/8)) (7-j%8)
 split<;>omega
end Bi
namespace So
section
variable {P : Program} {md : Region.Mode} {ops : Array Oper} {w : World}
theorem wpIn_of_still {n:Nat} {o:Oper} {a:Act} {K:Act->Prop} {K':Act->World->Prop} {Q':Exit->Act->World->Prop} (h:∀ a,K a->K' a w) (hh:o.still P a w K):o.wpIn Fence.wide n P a w K' Q':=by
 refine⟨fun _ _=>trivial,?_⟩;unfold Oper.still at hh;have e:(o.semAt Fence.wide.round a.eval)=execOp a.eval o:=rfl;rw[e];generalize (execOp a.eval o).run P w=r at hh
 cases r with
 |ok nx w' =>
  cases nx with
  |value v =>
   simp only[Oper.stillUpon]at hh;obtain⟨rfl,hh⟩:=hh;exact h _ hh
  |skip =>
   simp only[Oper.stillUpon]at hh;obtain⟨rfl,hh⟩:=hh;exact h _ hh
  |enter f args =>
   simp only[Oper.stillUpon]at hh;obtain⟨rfl,v,hc,hh⟩:=hh;refine⟨fun hx=>(by cases hx),callsIn_wide.2 (hc.mono ?_)⟩;rintro e w'' ⟨rfl,rfl⟩;exact h _ hh
  |_=>simp only[Oper.stillUpon]at hh
 |_=>simp only[Oper.stillUpon]at hh
theorem wpOpIn_of_stOp {n i:Nat} {a:Act} {K:Act->Prop} {K':Act->World->Prop} {Q':Exit->Act->World->Prop} (h:∀ a,K a->K' a w) (hh:stOp P ops w i K a):wpOpIn Fence.wide n P ops Q' i K' a w:=by
 unfold stOp at hh;unfold wpOpIn
 split
 ·rename_i ho;simp only[ho]at hh;exact h _ hh
 ·rename_i o ho
  simp only[ho]at hh
  split
  ·rename_i hw;simp only[hw,if_true]at hh;exact wpIn_of_still h hh
  ·rename_i hw;simp only[hw]at hh;exact⟨fun _ _=>trivial,h _ hh⟩
theorem wpAnyIn_of_head {n k g:Nat} {L:Array Bool->Act->Prop} {Q':Exit->Act->World->Prop} (hL:∀ listed a,L listed a->wpAnyIn Fence.wide k P md ops Q' g listed a w) :
  ∀ (f:Nat) (listed:Array Bool) (a:Act),wpAnyL P md ops w n L f listed a->wpAnyIn Fence.wide k P md ops Q' (f+g) listed a w
 |0,listed,a,h=>by rw[Nat.zero_add];exact hL _ _ h
 |f+1,listed,a,h=>by
  rw[show f+1+g=(f+g)+1 by omega];exact⟨fun h0=>absurd h0 h.1,fun i hi=>wpOpIn_of_stOp (fun a' h'=>wpAnyIn_of_head hL f _ a' h') (h.2 i hi).2⟩
theorem wpAnyIn_of_seq {k0:Nat} {Q':Exit->Act->World->Prop}:∀ (l:List Oper) (k:Nat) (listed:Array Bool) (a:Act) (w:World),(∀ j,l[j]? = ops[k+j]?) ->
  Region.seqB md ops l.length k listed=true->wpListIn Fence.wide k0 P ops Q' l a w->wpAnyIn Fence.wide k0 P md ops Q' l.length listed a w
 |[],_,_,_,_,_,hB,h=>⟨by simpa [Region.seqB] using hB,h⟩
 |o :: l,k,listed,a,w,hl,hB,h=>by
  have h0:ops[k]? = some o:=by simpa using (hl 0).symm
  simp only[List.length_cons,Region.seqB,Bool.and_eq_true,decide_eq_true_eq]at hB;refine⟨fun h1=>(by rw[hB.1]at h1;cases h1),fun i hi=>?_⟩;rw[hB.1]at hi
  have hik:i=k:=by simpa using hi
  subst hik
  have hw:wpOpIn Fence.wide k0 P ops Q' i (wpListIn Fence.wide k0 P ops Q' l) a w:=by unfold wpOpIn;simp only[h0];exact h
  exact wpOpIn_mono (fun a' w' h'=>wpAnyIn_of_seq l (i+1) _ a' w' (fun j=>by have:=hl (j+1);simpa [Nat.add_assoc,Nat.add_comm 1 j] using this) hB.2 h') hw
theorem wpIn_region_still_tail {id k0:Nat} {Q:Exit->Act->World->Prop} {a:Act} {l:List Oper} (n:Nat) (hm:P.follows .mixedOrders=true) (hB:Region.lexTailB .any l.toArray n=true)
  (h:wpStill P l.toArray w.drew (fun a'=>wpListIn Fence.wide k0 P l.toArray Q (l.drop n) a' w.drew) (l.take n) a):(Code.region id l.toArray true).wpIn Fence.wide k0 P Q a w:=by
 simp only[Region.lexTailB,Bool.and_eq_true,decide_eq_true_eq]at hB;obtain⟨⟨⟨⟨hsel,hn⟩,hs⟩,hc⟩,hlex⟩:=hB
 have hn':n<l.length:=by simpa using hn
 have htl:(l.take n).length=n:=by simp;omega
 have hdl:(l.drop n).length=l.toArray.size-n:=by simp
 have inv0:HeadInv .any l.toArray n (Array.replicate l.toArray.size false) :=
  ⟨by simp,fun j oj _ hl=>(by rw[getD_replicate_false]at hl;cases hl),fun t _ ht=>getD_in (by simpa using ht) (getD_replicate_false _ _)⟩
 have H:=wpAnyL_lex (md:=.any) (g:=l.toArray.size-n) hsel hs hc hn (l.take n) 0 _ a (fun j hj=>by
  have hj':j<n:=by rw[htl]at hj;exact hj
  simp[hj']) (by simpa using htl) inv0 (by rw[htl];exact hlex) h
 refine wpIn_region_any hm ?_
 have:=wpAnyIn_of_head (k:=k0) (Q':=Q) (g:=l.toArray.size-n) (fun listed a' hL=>by
  have:=wpAnyIn_of_seq (k0:=k0) (md:=.any) (Q':=Q) (l.drop n) n listed a' w.drew (fun j=>by simp[List.getElem?_drop]) (by rw[hdl];exact hL.1) hL.2
  rwa[hdl]at this) _ _ _ H
 rw[htl,show n+(l.toArray.size-n)=l.toArray.size by omega]at this;exact this
end
end So
namespace So
open Go.RowKit Go.Sort Go.Proofs Go.Shelf
attribute [local go_sem] Oper.semAt_some
def turnV (t:ByteArray) (x:Nat):ByteArray:=t.extract x t.size++t.extract 0 x
theorem turnsOf_in (F:Fence) (n:Nat) (hf:F.fn 192) (hro:F.round=none) (t:ByteArray) (w:World) :
  CallsIn F n prog 192 #[.string t] w fun e w'=>e=.returned (.func (.func 219) #[] #[.pointer (some ⟨w.heap.size,0,none⟩)])/\w'=w.alloc (.cells #[.string t] 9):=by
 refine callsIn_of_wp func192 rfl hf ?_ hro;simp only[ntmps192,List.size_toArray,List.length_cons,List.length_nil,Nat.reduceAdd,Nat.reduceSub,Array.replicate_succ,Array.replicate_zero,List.push_toArray,List.append_toArray,List.nil_append,List.cons_append]
 gi_wp2
 go_ret;exact⟨rfl,rfl⟩
def KeepB (Bn:Nat) (W W':World):Prop:=W'.cell? ⟨Bn,0,none⟩=W.cell? ⟨Bn,0,none⟩
theorem KeepB.trans {Bn:Nat} {A B C:World} (h1:KeepB Bn A B) (h2:KeepB Bn B C):KeepB Bn A C:=Eq.trans h2 h1
theorem turns1_in (n:Nat) (l Bn:Nat) (t:ByteArray) (ht:t.size<=1048576) (J Jx:List Nat->World->Prop)
  (hY:∀ pre x W,J pre W->pre.length<t.size->YieldAt Fence.wide (n-1) prog l #[.agg #[.int .i64 (x:Nat),.string (turnV t x)]] W fun e W' =>
   (e=.returned (.bool true)/\J (pre++[x]) W'/\KeepB Bn W W')∨(e=.returned (.bool false)/\Jx (pre++[x]) W'))
  (hA:∀ s A B,J s A->A.grownBy B none->J s B) (W:World) (hBn:W.cell? ⟨Bn,0,none⟩=some (.string t)) (h0:J [] W) :
  CallsIn Fence.wide n prog 219 #[.func (.yield l) #[] #[],.pointer (some ⟨Bn,0,none⟩)] W fun e W'=>(∃ v,e=.returned v) /\
   ((∃ ys,ys=List.range t.size/\J ys W')∨(∃ pre,pre <+: List.range t.size/\Jx pre W')):=by
 have mixed:=mixed;refine callsIn_of_wp func219 rfl trivial ?_ rfl;simp only[ntmps219,List.size_toArray,List.length_cons,List.length_nil,Nat.reduceAdd,Nat.reduceSub,Array.replicate_succ,Array.replicate_zero,List.push_toArray,List.append_toArray,List.nil_append,List.cons_append]
 gi_wp2
 gi_loopw [6] (fun p wr=>∃ k:Nat,p=.int .i64 k/\k<=t.size/\wr.cell? ⟨Bn,0,none⟩=some (.string t)/\J (List.range k) wr) (fun p _=>t.size-(intOf p).toNat)
 case atStart=>exact⟨0,rfl,Nat.zero_le _,hBn,h0⟩
 case round =>
  obtain⟨k,rfl,hk,hc,hJ⟩:=hrel;by_cases hlt:k<t.size
  ·obtain⟨fn,tmps,assign,body,hy,hR⟩:=hY (List.range k) k wr.drew (hA _ _ _ hJ ⟨rfl,rfl,rfl,nl,fun _ _ _=>rfl⟩) (by simpa using hlt)
   unfold turnV at hy;have hc':wr.drew.cell? ⟨Bn,0,none⟩=some (.string t):=hc
   have hlt':(k:Int)<(t.size:Int):=by omega
   have hle:(k:Int)<=(t.size:Int):=by omega
   have hge:¬(t.size:Int)<(k:Int):=by omega
   have hq0:(t.extract k t.size).size+(t.extract 0 k).size<=9223372036854775807:=by simp;omega
   gi_wp2
   refine wpIn_region_still_tail 10 mixed (by kernel_rfl) ?_;simp only[List.take,List.drop]
   repeat still_step
   generalize t.extract k t.size=A at hq0 hy ⊢;generalize t.extract 0 k=B at hq0 hy ⊢
   have hq4:¬A.size+B.size > 9223372036854775807:=by omega
   have hq5:¬9223372036854775807<A.size+B.size:=by omega
   repeat still_step
   refine wpStill_nil ?_
   gi_wp2
   refine⟨fun hx=>(by cases hx),hR.mono ?_⟩;rintro e W3 (⟨rfl,hJ3,hk3⟩|⟨rfl,hJx3⟩)
   ·have hc3:W3.cell? ⟨Bn,0,none⟩=some (.string t):=(show W3.cell? ⟨Bn,0,none⟩=wr.drew.cell? ⟨Bn,0,none⟩ from hk3).trans hc'
    gi_wp2
    go_roundw
    case rel=>exact⟨k+1,by go_num,by omega,hc3,by rw[List.range_succ];exact hJ3⟩
    case measure=>simp[intOf];omega
   ·gi_wp2
    refine bodyPost_ret (results_none rfl _ _ _) rfl ?_;refine⟨⟨_,rfl⟩,.inr ⟨List.range k++[k],?_,hJx3⟩⟩;rw[<-List.range_succ];exact List.prefix_iff_eq_take.2 (by rw[List.length_range,List.take_range,Nat.min_eq_left hlt])
  ·obtain rfl:k=t.size:=by omega
   have hge:¬(t.size:Int)<(t.size:Int):=by omega
   gi_wp2
   go_end0
   exact⟨⟨_,rfl⟩,.inl hJ⟩
theorem turns_stops (n Bn:Nat) (t:ByteArray) (ht:t.size<=1048576) (w:World) (hBn:Bn<w.heap.size) (hc:w.cell? ⟨Bn,0,none⟩=some (.string t)) :
  SeqStopsK Fence.wide n prog 219 #[.pointer (some ⟨Bn,0,none⟩)] (fun x:Nat=>#[Value.agg #[.int .i64 (x:Nat),.string (turnV t x)]]) (KeepB Bn) (fun ys=>ys=List.range t.size) (fun pre=>pre <+: List.range t.size) t.size w:=fun l J Jx W hW hJ _ hY h0 =>
 turns1_in n l Bn t ht J Jx hY (fun s A B h1 h2=>hJ s A B none h1 h2 (fun r e=>by cases e)) W ((hW.cell (p:=⟨Bn,0,none⟩) hBn).trans hc) h0
def OrdOk (t:ByteArray) (l:List Nat):Prop:=l.Perm (List.range t.size)/\l.Pairwise (lx (clT (turnV t)))
theorem ord_unique {t:ByteArray} {l l':List Nat} (h:OrdOk t l) (h':OrdOk t l'):l=l' :=
 List.Perm.eq_of_pairwise (fun _ _ _ _ h1 h2=>(lx_asymm (clT_weak _) h1 h2).elim) h.2 h'.2 (h.1.trans h'.1.symm)
open Classical in
noncomputable def ord (t:ByteArray):List Nat:=if h:∃ l,OrdOk t l then Classical.choose h else []
theorem ord_of {t:ByteArray} {l:List Nat} (h:OrdOk t l):ord t=l:=by
 have hex:∃ l,OrdOk t l:=⟨l,h⟩;unfold ord;rw[dif_pos hex];exact ord_unique (Classical.choose_spec hex) h
def ints (l:List Nat):List Int:=l.map fun x=>((x:Nat):Int)
theorem ints_len (l:List Nat):(ints l).length=l.length:=by simp[ints]
theorem ints_snoc (l:List Nat) (x:Nat):ints (l++[x])=ints l++[(x:Int)]:=by simp[ints]
noncomputable def ordR (t:ByteArray):List Int:=if t.size<=48 then ints (ord t) else []
theorem seg_len (f:Nat->Nat) (a b:Nat):(seg f a b).length=b-a:=by simp[seg]
theorem seg_pairwise {cl:Nat->Nat->Bool} {f:Nat->Nat} {n:Nat} (h:Ris cl 0 n f):(seg f 0 n).Pairwise (lx cl):=by
 rw[List.pairwise_iff_getElem];intro i j hi hj hij;rw[seg_len]at hi hj
 have e:∀ k (hk:k<(seg f 0 n).length),(seg f 0 n)[k]=f k:=fun k hk=>by simp[seg]
 rw[e,e];exact h i j (Nat.zero_le _) hij (by omega)
theorem ord_seg {t:ByteArray} {f:Nat->Nat} (hp:(seg f 0 t.size).Perm (List.range t.size)) (hr:Ris (clT (turnV t)) 0 t.size f):OrdOk t (seg f 0 t.size):=⟨hp,seg_pairwise hr⟩
theorem ord_put {cl:Nat->Nat->Bool} (hw:Weak cl) {l:List Nat} {k p:Nat} (hp:l.Perm (List.range k)) (hs:l.Pairwise (lx cl)) (hl:p<=l.length) (hhi:∀ j (h:j<l.length),p<=j->cl k l[j]=true) (hlo:p=0∨∃ h:p-1<l.length,cl k l[p-1]=false) :
  (l.take p++[k]++l.drop p).Perm (List.range (k+1))/\(l.take p++[k]++l.drop p).Pairwise (lx cl):=by
 refine⟨?_,?_⟩
 ·rw[List.range_succ]
  have h1:(l.take p++[k]++l.drop p).Perm (l.take p++l.drop p++[k]):=by
   rw[List.append_assoc,List.append_assoc];exact List.Perm.append_left _ List.perm_append_comm
  rw[List.take_append_drop]at h1;exact h1.trans (List.Perm.append_right _ hp)
 ·have hlt:∀ x∈l,x<k:=fun x hx=>by
   have:=hp.mem_iff.1 hx
   simpa using this
  have hlow:∀ x∈l.take p,lx cl x k:=by
   intro x hx
   rcases hlo with h0|⟨h1,h2⟩
   ·subst h0;simp at hx
   ·obtain⟨j,hj,rfl⟩:=List.getElem_of_mem hx
    have hj':j<p:=by simp at hj;omega
    rw[List.getElem_take];have hq:lx cl l[p-1] k:=lx_no h2 (hlt _ (List.getElem_mem _))
    rcases Nat.lt_or_ge j (p-1) with e|e
    ·exact lx_trans hw (List.pairwise_iff_getElem.1 hs j (p-1) (by omega) h1 e) hq
    ·have:j=p-1:=by omega
     subst this;exact hq
  have hhigh:∀ x∈l.drop p,lx cl k x:=by
   intro x hx;obtain⟨j,hj,rfl⟩:=List.getElem_of_mem hx;rw[List.getElem_drop];simp at hj;exact lx_yes (hhi (p+j) (by omega) (by omega))
  rw[List.append_assoc,List.pairwise_append];refine⟨hs.sublist (List.take_sublist _ _),?_,?_⟩
  ·rw[List.singleton_append,List.pairwise_cons]
   exact⟨hhigh,hs.sublist (List.drop_sublist _ _)⟩
  ·intro x hx y hy
   rw[List.singleton_append]at hy
   rcases List.mem_cons.1 hy with e|hy
   ·rw[e];exact hlow x hx
   ·exact lx_trans hw (hlow x hx) (hhigh y hy)
end So
namespace So
open Sh (bt bt_get bt_lt strF strF_congr)
def lastB (t:ByteArray) (x:Nat):Nat:=bt t ((x+t.size-1)%t.size)
theorem turnV_size (t:ByteArray) (x:Nat) (hx:x<=t.size):(turnV t x).size=t.size:=by
 unfold turnV;rw[ByteArray.size_append,ByteArray.size_extract,ByteArray.size_extract];omega
theorem turnV_list (t:ByteArray) (x:Nat):(turnV t x).data.toList=t.data.toList.drop x++t.data.toList.take x:=by
 unfold turnV;simp[ByteArray.data_append,ByteArray.data_extract];rw[List.take_of_length_le (by simp)]
theorem turnV_last (t:ByteArray) (x:Nat) (hx:x<t.size):bt (turnV t x) (t.size-1)=lastB t x:=by
 unfold lastB bt;rw[turnV_list]
 have hl:t.data.toList.length=t.size:=by simp
 simp only[List.getD_eq_getElem?_getD];by_cases h0:x=0
 ·subst h0
  rw[List.drop_zero,List.take_zero,List.append_nil,Nat.zero_add,Nat.mod_eq_of_lt (by omega)]
 ·rw[List.getElem?_append_right (by rw[List.length_drop];omega),List.length_drop,hl,List.getElem?_take_of_lt (by omega)]
  have e:(x+t.size-1)%t.size=x-1:=by
   rw[show x+t.size-1=(x-1)+t.size by omega,Nat.add_mod_right,Nat.mod_eq_of_lt (by omega)]
  rw[e,show t.size-1-(t.size-x)=x-1 by omega]
def atK (f:Nat->Nat):Nat->Nat
 |0=>0
 |k+1=>if f k=0 then k else atK f k
theorem atK_le (f:Nat->Nat) (k:Nat):atK f k<=k:=by
 induction k with
 |zero=>exact nl
 |succ k ih=>unfold atK;split<;>omega
theorem atK_congr {f g:Nat->Nat} {n:Nat} (h:∀ j,j<n->f j=g j):∀ k,k<=n->atK f k=atK g k:=by
 intro k
 induction k with
 |zero=>intro _;rfl
 |succ k ih=>intro hk;unfold atK;rw[h k hk,ih (by omega)]
noncomputable def ordF (t:ByteArray):Nat->Nat:=fun j=>(ord t).getD j 0
theorem ordF_seg {t:ByteArray} {f:Nat->Nat} (h:OrdOk t (seg f 0 t.size)) (j:Nat) (hj:j<t.size):ordF t j=f j:=by
 unfold ordF;rw[ord_of h,List.getD_eq_getElem?_getD,List.getElem?_eq_getElem (by rw[seg_len];omega)];simp[seg]
theorem ordF_list {t:ByteArray} {l:List Nat} (h:OrdOk t l) (j:Nat) (hj:j<l.length):ordF t j=l[j]:=by
 unfold ordF;rw[ord_of h,List.getD_eq_getElem?_getD,List.getElem?_eq_getElem hj];rfl
noncomputable def bwtT (t:ByteArray):ByteArray:=if t.size<=48 then strF t.size (fun j=>lastB t (ordF t j)) else ⟨#[]⟩
noncomputable def bwtA (t:ByteArray):Nat:=if t.size<=48 then atK (ordF t) t.size else 0
def bwtC (t:ByteArray):Nat:=if 8000<t.size then 2 else if 48<t.size then 1 else 0
theorem bwt_yes {t:ByteArray} {f:Nat->Nat} (ht:t.size<=48) (h:∀ j,j<t.size->ordF t j=f j):bwtT t=strF t.size (fun j=>lastB t (f j))/\bwtA t=atK f t.size/\bwtC t=0:=by
 unfold bwtT bwtA bwtC;rw[if_pos ht,if_pos ht,if_neg (by omega),if_neg (by omega)];exact⟨strF_congr _ _ _ fun j hj=>by rw[h j hj],atK_congr h _ nl,rfl⟩
theorem bwt_no {t:ByteArray} (ht:48<t.size):bwtT t=⟨#[]⟩/\bwtA t=0:=by
 unfold bwtT bwtA;rw[if_neg (by omega),if_neg (by omega)];exact⟨rfl,rfl⟩
def fillL (t:ByteArray) (f:Nat->Nat) (k:Nat):Nat->Nat:=fun j=>if j<k then lastB t (f j) else 0
theorem fillL_lt (t:ByteArray) (f:Nat->Nat) (k j:Nat):fillL t f k j<256:=by
 unfold fillL
 split
 ·exact bt_lt _ _
 ·omega
theorem fillL_next (t:ByteArray) (f:Nat->Nat) (k:Nat) (j:Nat):Sh.upd (fun j=>((fillL t f k j:Nat):Int)) k ((lastB t (f k):Nat):Int) j=((fillL t f (k+1) j:Nat):Int):=by
 unfold Sh.upd fillL;by_cases e:j=k
 ·subst e
  rw[if_pos rfl,if_pos (by omega)]
 ·rw[if_neg e]
  by_cases h:j<k
  ·have h':j<k+1:=by omega
   simp only[h,h',if_true]
  ·have h':¬j<k+1:=by omega
   simp only[h,h',if_false]
theorem fillL_all (t:ByteArray) (f:Nat->Nat) (n:Nat):strF n (fillL t f n)=strF n (fun j=>lastB t (f j)):=strF_congr _ _ _ fun j hj=>by
 unfold fillL;rw[if_pos hj]
end So
namespace Nm2
open Nu Go.Proofs.YtaejgfdkfcmjeaaGreatDoor.Gn
theorem unz_zz (n:Int):unz (zz n)=n:=by
 unfold zz
 split
 ·rw[unz_odd _ (by omega)];omega
 ·rw[unz_even _ (by omega)];omega
theorem pow_eq (k:Nat):2 ^ (7*k)=128 ^ k:=by rw[Nat.pow_mul]
theorem cnt_spec (U:Nat) (hU:U<18446744073709551616):cnt 9 U<=9/\(∀ j,j<cnt 9 U->128<=U/128 ^ j)/\U/128 ^ cnt 9 U<128:=by
 have key:∀ f u,u/128 ^ f<128->(∀ j,j<cnt f u->128<=u/128 ^ j)/\u/128 ^ cnt f u<128:=by
  intro f
  induction f with
  |zero=>intro u h;exact⟨fun j hj=>absurd hj (Nat.not_lt_zero j),by simpa [cnt] using h⟩
  |succ f ih =>
   intro u h;unfold cnt
   split
   ·rename_i hlt
    exact⟨fun j hj=>absurd hj (Nat.not_lt_zero j),by simpa using hlt⟩
   ·rename_i hge
    rw[div_pow]at h;obtain⟨h1,h2⟩:=ih (u/128) h;refine⟨fun j hj=>?_,by rw[div_pow];exact h2⟩
    match j with
    |0=>simpa using (by omega:128<=u)
    |j+1=>rw[div_pow];exact h1 j (by omega)
 refine⟨cnt_le 9 U,key 9 U ?_⟩
 have e:(128:Nat) ^ 9=9223372036854775808:=by decide
 rw[e];omega
theorem mod_next (U k:Nat):U%128 ^ k+U/128 ^ k%128*128 ^ k=U%128 ^ (k+1):=by
 rw[Nat.pow_succ,Nat.mod_mul,Nat.mul_comm (128 ^ k)]
theorem dec (s:ByteArray) (U p0 K:Nat) (hU:U<18446744073709551616) (hK:K<=9) (hall:∀ j,j<K->128<=U/128 ^ j) (hlast:U/128 ^ K<128)
  (hsz:p0+K<s.size) (hb:∀ j,j<K->byteN s (p0+j)=U/128 ^ j%128+128) (hbl:byteN s (p0+K)=U/128 ^ K) :
  ∀ d k,K-k=d->k<=K->run s (10-k) k (p0+k) (U%128 ^ k)=(U,p0+K+1,0):=by
 intro d
 induction d with
 |zero =>
  intro k hd hk
  obtain rfl:k=K:=by omega
  obtain⟨f,hf⟩:∃ f,10-k=f+1:=⟨9-k,by omega⟩;have e:=byteN_eq s (p0+k) hsz;rw[hbl]at e
  have h9:¬(k=9/\1<s[p0+k].toNat):=by
   rintro⟨rfl,h⟩;rw[e,show (128:Nat) ^ 9=9223372036854775808 from by decide]at h;omega
  have hz:¬(s[p0+k].toNat=0/\0<k):=by
   rintro⟨h,hk0⟩;have h1:=hall (k-1) (by omega);rw[e,show k=(k-1)+1 from by omega,pow_div]at h;omega
  rw[hf,run_last s f k (p0+k) _ hsz h9 (by rw[e];exact hlast) hz,e,pow_eq,Nat.mod_eq_of_lt hlast]
  have hm:U%128 ^ k+U/128 ^ k*128 ^ k=U:=by rw[Nat.mul_comm];exact Nat.mod_add_div U (128 ^ k)
  rw[hm]
 |succ d ih =>
  intro k hd hk
  have hlt:k<K:=by omega
  obtain⟨f,hf⟩:∃ f,10-k=f+1:=⟨9-k,by omega⟩
  have hp:p0+k<s.size:=by omega
  have e:=byteN_eq s (p0+k) hp;rw[hb k hlt]at e;rw[hf,run_more s f k (p0+k) _ hp (by omega) (by omega),e,pow_eq,Nat.add_mod_right,Nat.mod_mod,mod_next,show f=10-(k+1) from by omega];exact ih (k+1) (by omega) (by omega)
end Nm2
namespace Sh
theorem still_lit {P:Program} {id:Nat} {Q:Exit->Act->World->Prop} {a:Act} {w:World} {l:List Oper} (hm:P.follows .mixedOrders=true) (hB:Region.lexB .any l.toArray=true)
  (h:wpStill P l.toArray w.drew (fun a'=>Q .normal a' w.drew) l a):(Code.region id l.toArray true).wp P Q a w :=
 wp_region_still_lit hm hB h
theorem still_tail {P:Program} {id:Nat} {Q:Exit->Act->World->Prop} {a:Act} {w:World} {l:List Oper} (n:Nat) (hm:P.follows .mixedOrders=true) (hB:Region.lexTailB .any l.toArray n=true)
  (h:wpStill P l.toArray w.drew (fun a'=>wpList P l.toArray Q (l.drop n) a' w.drew) (l.take n) a):(Code.region id l.toArray true).wp P Q a w :=
 wp_region_still_tail n hm hB h
end Sh
namespace St
def IsStrs (w:World) (a:Option Addr) (len cap:Nat) (ss:List ByteArray):Prop :=
 (a=none/\len=0/\cap=0/\ss=[]) ∨
 ∃ x,a=some x/\len<=cap/\cap<=maxLen/\ss.length=cap/\(∀ i,i<ss.length->w.cell? (x.add i)=some (.string (ss.getD i ByteArray.empty)))/\∀ s∈ss,s.size<=maxLen
end St
end Go.Proofs.YtaejgfdkfcmjeaaGreatDoor
