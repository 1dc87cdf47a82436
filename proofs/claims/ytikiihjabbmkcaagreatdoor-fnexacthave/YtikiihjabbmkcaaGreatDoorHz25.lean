/- Texts put together: IntRow, IntLaws, IntMark, IntOwn. -/
import Derived.Test.YtikiihjabbmkcaaGreatDoorHz7
import Derived.Test.YtikiihjabbmkcaaGreatDoorHz1
import Derived.BigRegion
import Derived.BigQuiet
import Derived.Deep.QuietTactic
import Derived.Test.YtikiihjabbmkcaaGreatDoorHz14
import Derived.Laws.AppendOwn
set_option maxRecDepth 100000
set_option maxHeartbeats 8000000
/- Rows of numbers in memory: as a slice that came in sees them, and as a block of the call's own. -/
namespace Go.Proofs.YtikiihjabbmkcaaGreatDoor.In
open Go.RowKit
theorem hideI {p:Prop} (h:p):Hid p:=h
def Ints (w:World) (B:Nat) (a:Option Addr) (l:List Int):Prop :=
 l=[]∨∃ b off,a=some ⟨b,off,none⟩/\b<B/\∀ j (h:j<l.length),w.cell? ⟨b,off+j,none⟩=some (.int .i64 l[j])
theorem Ints.below {w w':World} {B:Nat} {a:Option Addr} {l:List Int} (h:Ints w B a l) (hb:Below B w w'):Ints w' B a l:=by
 rcases h with h0|⟨b,off,rfl,hlt,hc⟩
 ·exact .inl h0
 ·exact .inr ⟨b,off,rfl,hlt,fun j hj=>(hb.cell (p:=⟨b,off+j,none⟩) hlt).trans (hc j hj)⟩
theorem Ints.mono {w:World} {B C:Nat} {a:Option Addr} {l:List Int} (h:Ints w B a l) (hBC:B<=C):Ints w C a l:=by
 rcases h with h0|⟨b,off,rfl,hlt,hc⟩
 ·exact .inl h0
 ·exact .inr ⟨b,off,rfl,Nat.lt_of_lt_of_le hlt hBC,hc⟩
theorem Ints.after {w w':World} {B C:Nat} {a:Option Addr} {l:List Int} (h:Ints w B a l) (hb:Below C w w') (hBC:B<=C):Ints w' B a l:=by
 rcases h with h0|⟨b,off,rfl,hlt,hc⟩
 ·exact .inl h0
 ·exact .inr ⟨b,off,rfl,hlt,fun j hj=>(hb.cell (p:=⟨b,off+j,none⟩) (Nat.lt_of_lt_of_le hlt hBC)).trans (hc j hj)⟩
theorem Ints.some {w:World} {B:Nat} {a:Option Addr} {l:List Int} (h:Ints w B a l) (hl:0<l.length) :
  ∃ b off,a=.some ⟨b,off,none⟩/\b<B/\∀ j (h:j<l.length),w.cell? ⟨b,off+j,none⟩=.some (.int .i64 l[j]):=by
 rcases h with h0|h
 ·subst h0;simp at hl
 ·exact h
theorem Ints.take {w:World} {B b off k:Nat} {l:List Int} (hB:b<B) (hc:∀ j (h:j<l.length),w.cell? ⟨b,off+j,none⟩=.some (.int .i64 l[j])):Ints w B (.some ⟨b,off,none⟩) (l.take k) :=
 .inr ⟨b,off,rfl,hB,fun j hj=>by
  have h1:j<l.length:=Nat.lt_of_lt_of_le hj (List.length_take_le' k l)
  rw[hc j h1,List.getElem_take]⟩
theorem Ints.drop {w:World} {B b off k:Nat} {l:List Int} (hB:b<B) (hc:∀ j (h:j<l.length),w.cell? ⟨b,off+j,none⟩=.some (.int .i64 l[j])):Ints w B (.some ⟨b,off+k,none⟩) (l.drop k) :=
 .inr ⟨b,off+k,rfl,hB,fun j hj=>by
  rw[List.length_drop]at hj
  rw[List.getElem_drop,<-hc (k+j) (by omega)]
  congr 2
  omega⟩
def irow (l:List Int):Array Value:=(l.map (Value.int .i64)).toArray
def IsI (w:World) (g:Nat) (t:TypeId) (l:List Int):Prop:=w.heap[g]? = some (.cells (irow l) t (0,0))
theorem irow_get (l:List Int) (j:Nat) (h:j<l.length):(irow l)[j]? = some (.int .i64 l[j]):=by simp[irow,h]
theorem irow_set (l:List Int) (i:Nat) (s:Int):(irow l).setIfInBounds i (.int .i64 s)=irow (l.set i s):=by
 simp[irow,List.map_set]
theorem IsI.cell {w:World} {g t:Nat} {l:List Int} (h:IsI w g t l) {j:Nat} (hj:j<l.length):w.cell? ⟨g,j,none⟩=some (.int .i64 l[j]):=by
 rw[cell_of_row w g j _ t (0,0) h,irow_get l j hj]
theorem IsI.frozen {w:World} {g t:Nat} {l:List Int} (h:IsI w g t l) (j:Nat):w.frozen? ⟨g,j,none⟩=false:=frozen_of_row w g j _ t h
theorem IsI.set {w:World} {g t:Nat} {l:List Int} (h:IsI w g t l) (i:Nat) (s:Int):IsI (w.setCell ⟨g,i,none⟩ (.int .i64 s)) g t (l.set i s):=by
 unfold IsI
 rw[heap_setCell_same w g i _ t _ h,irow_set]
theorem IsI.lt {w:World} {g t:Nat} {l:List Int} (h:IsI w g t l):g<w.heap.size:=(Array.getElem?_eq_some_iff.1 h).1
theorem IsI.below {w w':World} {g t B:Nat} {l:List Int} (h:IsI w g t l) (b:Below B w w') (hg:g<B):IsI w' g t l:=by
 unfold IsI
 rw[b.block g hg]
 exact h
theorem IsI.ints {w:World} {g t B:Nat} {l:List Int} (h:IsI w g t l) (hB:g<B):Ints w B (some ⟨g,0,none⟩) l :=
 .inr ⟨g,0,rfl,hB,fun j hj=>by rw[Nat.zero_add];exact h.cell hj⟩
def mid (l:List Int) (k:Nat):List Int:=l.take k++List.replicate (l.length-k) 0
theorem Tryz.infoI2:(Tryz.prog.info? 2).map (fun i=>(i.zero,i.size,i.bytes))=some (some (.int .i64 0),1,8):=by kernel_rfl
end Go.Proofs.YtikiihjabbmkcaaGreatDoor.In


namespace Go.Proofs.YtikiihjabbmkcaaGreatDoor.In
open Go.RowKit
theorem ret_bool {a b:Bool} (h:a=b):Ending.returned (.bool a)=.returned (.bool b):=by rw[h]
/-- two rows of the same numbers are alike -/
theorem eq_any (a b:Option Addr) (cap cap':Nat) (l:List Int) (w:World) (B:Nat) (ha:Ints w B a l) (hb:Ints w B b l) (hn:l.length<=1048576) :
  Calls Tryz.prog 13 #[.slice a l.length cap,.slice b l.length cap'] w fun e w'=>e=.returned (.bool true)/\Below w.heap.size w w':=by
 have HA:=hideI ha
 have HB:=hideI hb
 clear ha hb
 obtain⟨n,hln⟩:∃ n,n=l.length:=⟨_,rfl⟩
 have HLN:=hideI hln
 rw[<-hln]at hn ⊢
 clear hln
 go_enter Tryz.func13,Tryz.ntmps13
 go_wp2_with fail
 go_loopw [5] (fun i wr=>∃ k:Nat,i=.int .i64 k/\k<=n/\(∀ p:Addr,wr.cell? p=w.cell? p)/\Below w.heap.size w wr) (fun i _=>n-(intOf i).toNat)
 case atStart=>exact⟨0,rfl,by omega,fun _=>rfl,Below.refl _ _⟩
 case round =>
  obtain⟨k,rfl,hk,hcell,hbel⟩:=hrel
  have HC:=hideI hcell
  have GB:=hideI hbel
  by_cases hlt:k<n
  ·have hkl:k<l.length:=by rw[<-HLN.out];exact hlt
   obtain⟨b1,off1,rfl,_,hc1⟩:=HA.out.some (by omega)
   obtain⟨b2,off2,rfl,_,hc2⟩:=HB.out.some (by omega)
   have c1:=(hcell _).trans (hc1 k hkl)
   have c2:=(hcell _).trans (hc2 k hkl)
   obtain⟨s,hs⟩:∃ s,s=l[k]:=⟨_,rfl⟩
   rw[<-hs]at c1 c2
   clear hc1 hc2 hcell hbel hs
   go_wp2_with fail
   go_region
   all_goals (try go_wp2_with fail)
   all_goals go_roundw
   case rel=>exact⟨k+1,by go_num,by omega,fun p=>HC.out p,GB.out.drew⟩
   case measure=>simp[intOf];omega
  ·clear hcell hbel
   go_wp2_with fail
   go_ret
   exact⟨rfl,GB.out⟩
end Go.Proofs.YtikiihjabbmkcaaGreatDoor.In


namespace Go.Proofs.YtikiihjabbmkcaaGreatDoor.In
open Go.RowKit
open St (Aft)
def IsO (w:World) (g t:Nat) (l:List Int):Prop:=∃ cur:Array Value,w.heap[g]? = some (.cells cur t (0,0))/\∀ j (h:j<l.length),cur[j]? = some (.int .i64 l[j])
theorem IsO.cell {w:World} {g t:Nat} {l:List Int} (h:IsO w g t l) {j:Nat} (hj:j<l.length):w.cell? ⟨g,j,none⟩=some (.int .i64 l[j]):=by
 obtain⟨cur,hb,hc⟩:=h
 rw[cell_of_row w g j _ t (0,0) hb,hc j hj]
theorem IsO.frozen {w:World} {g t:Nat} {l:List Int} (h:IsO w g t l) (j:Nat):w.frozen? ⟨g,j,none⟩=false:=by
 obtain⟨cur,hb,_⟩:=h
 exact frozen_of_row w g j _ t hb
theorem IsO.set {w:World} {g t:Nat} {l:List Int} (h:IsO w g t l) (i:Nat) (s:Int):IsO (w.setCell ⟨g,i,none⟩ (.int .i64 s)) g t (l.set i s):=by
 obtain⟨cur,hb,hc⟩:=h
 refine⟨_,heap_setCell_same w g i _ t _ hb,fun j hj=>?_⟩
 rw[List.length_set]at hj
 rw[Array.getElem?_setIfInBounds,List.getElem_set]
 have hlt:j<cur.size:=(Array.getElem?_eq_some_iff.1 (hc j hj)).1
 by_cases e:i=j
 ·subst e
  simp[hlt]
 ·simp[e,hc j hj]
theorem IsO.lt {w:World} {g t:Nat} {l:List Int} (h:IsO w g t l):g<w.heap.size:=by
 obtain⟨cur,hb,_⟩:=h
 exact(Array.getElem?_eq_some_iff.1 hb).1
theorem IsO.of_heap {w w':World} {g t:Nat} {l:List Int} (h:IsO w g t l) (e:w'.heap[g]? = w.heap[g]?):IsO w' g t l:=by
 obtain⟨cur,hb,hc⟩:=h
 exact⟨cur,by rw[e];exact hb,hc⟩
theorem IsO.below {w w':World} {g t B:Nat} {l:List Int} (h:IsO w g t l) (b:Below B w w') (hg:g<B):IsO w' g t l:=h.of_heap (b.block g hg)
theorem IsO.ints {w:World} {g t B:Nat} {l:List Int} (h:IsO w g t l) (hB:g<B):Ints w B (some ⟨g,0,none⟩) l :=
 .inr ⟨g,0,rfl,hB,fun j hj=>by rw[Nat.zero_add];exact h.cell hj⟩
theorem IsI.own {w:World} {g t:Nat} {l:List Int} (h:IsI w g t l):IsO w g t l:=⟨irow l,h,fun j hj=>irow_get l j hj⟩
def marks (k n:Nat):List Int:=(List.range n).map fun j=>((k+j:Nat):Int)
theorem marks_length (k n:Nat):(marks k n).length=n:=by simp[marks]
theorem marks_get (k n j:Nat) (h:j<(marks k n).length):(marks k n)[j]=((k+j:Nat):Int):=by simp[marks]
def mmid (l:List Int) (k i:Nat):List Int:=marks k i++l.drop i
theorem mmid_length (l:List Int) (k i:Nat) (h:i<=l.length):(mmid l k i).length=l.length:=by simp[mmid,marks_length];omega
theorem mmid_zero (l:List Int) (k:Nat):mmid l k 0=l:=by simp[mmid,marks]
theorem mmid_all (l:List Int) (k:Nat):mmid l k l.length=marks k l.length:=by simp[mmid]
theorem mmid_next (l:List Int) (k i:Nat) (h:i<l.length):(mmid l k i).set i (((k+i:Nat):Int))=mmid l k (i+1):=by
 unfold mmid
 rw[List.set_append,if_neg (by rw[marks_length];omega),marks_length,Nat.sub_self]
 have:marks k (i+1)=marks k i++[((k+i:Nat):Int)]:=by simp[marks,List.range_succ]
 rw[this,List.append_assoc]
 congr 1
 rw[List.drop_eq_getElem_cons h]
 rfl
theorem mark_eq {w:World} {g t k:Nat} {l:List Int} (h:IsO w g t (l.set k (1+(k:Int)))):IsO w g t (l.set k ((1+k:Nat):Int)):=by
 rw[show ((1+k:Nat):Int)=1+(k:Int) by omega]
 exact h
theorem mark_any (g t c:Nat) (l:List Int) (w:World) (h:IsO w g t l) (hn:l.length<=1048576) :
  Calls Tryz.prog 14 #[.slice (some ⟨g,0,none⟩) l.length c,.int .i64 1] w fun e w'=>e=.returned (.int .i64 (1+l.length))/\IsO w' g t (marks 1 l.length)/\Aft g w w':=by
 have HS:=hideI h
 have hgl:=h.lt
 clear h
 obtain⟨n,hln⟩:∃ n,n=l.length:=⟨_,rfl⟩
 have HLN:=hideI hln
 rw[<-hln]at hn ⊢
 clear hln
 go_enter Tryz.func14,Tryz.ntmps14
 go_wp2_with fail
 go_loopw [5,1] (fun i kv wr=>∃ k:Nat,i=.int .i64 k/\kv=.int .i64 (1+k)/\k<=n/\IsO wr g t (mmid l 1 k)/\Aft g w wr) (fun i _ _=>n-(intOf i).toNat)
 case atStart=>exact⟨0,rfl,rfl,by omega,by rw[mmid_zero];exact HS.out,Aft.refl _ _⟩
 case round =>
  obtain⟨k,rfl,rfl,hk,h1,ha⟩:=hrel
  have G1:=hideI h1
  have GA:=hideI ha
  by_cases hlt:k<n
  ·have hkl:k<l.length:=by rw[<-HLN.out];exact hlt
   have HM:=hideI (mmid_next l 1 k hkl)
   have HL:=hideI (mmid_length l 1 k (by omega))
   have cf:=h1.frozen k
   obtain⟨v0,ce⟩:∃ v,wr.cell? ⟨g,k,none⟩=some (.int .i64 v):=⟨_,h1.cell (j:=k) (by rw[HL.out];exact hkl)⟩
   clear h1 ha
   go_wp2_with fail
   go_roundw
   case rel=>exact⟨k+1,by go_num,by go_num,by omega,by rw[<-HM.out];exact mark_eq (G1.out.set k _),GA.out.set k _⟩
   case measure=>simp[intOf];omega
  ·have HE:Hid (mmid l 1 k=marks 1 n):=by
    unfold Hid
    rw[show k=l.length by have:=HLN.out;omega,HLN.out]
    exact mmid_all l 1
   obtain⟨k',hk'⟩:∃ k':Nat,k'=k:=⟨_,rfl⟩
   have HKN:Hid ((1:Int)+k=1+n):=by
    unfold Hid
    omega
   clear h1 ha
   go_wp2_with fail
   go_ret
   exact⟨by rw[<-HKN.out];rfl,by rw[<-HE.out];exact G1.out,GA.out⟩
end Go.Proofs.YtikiihjabbmkcaaGreatDoor.In


/- Rows of numbers that a call has made and owns: nil, or a block of its own whose head they are. -/
namespace Go.Proofs.YtikiihjabbmkcaaGreatDoor.In
open Go.RowKit
open St (Aft)
def OwnI (w:World) (base:Nat) (v:Value) (l:List Int):Prop:=w.ownsRow base 2 1 v l.length (l.map (Value.int .i64))
theorem OwnI.nil (w:World) (base:Nat):OwnI w base (.slice none 0 0) []:=World.ownsRow_nil w base _ _
theorem OwnI.split {w:World} {base:Nat} {v:Value} {l:List Int} (h:OwnI w base v l) :
  (v=.slice none 0 0/\l=[])∨∃ g cap,v=.slice (some ⟨g,0,none⟩) l.length cap/\base<=g/\l.length<=cap/\IsO w g 2 l:=by
 obtain⟨_,h⟩:=h
 rcases h with⟨h,h0⟩|⟨g,cap,cur,hv,hg,hb,hnc,_,hsz,htk⟩
 ·exact .inl ⟨h,List.eq_nil_of_length_eq_zero h0⟩
 ·refine .inr ⟨g,cap,hv,hg,hnc,cur,hb,fun j hj=>?_⟩
  rw[<-Array.getElem?_toList]
  have h1:cur.toList[j]? = (cur.toList.take (l.length*1))[j]?:=by rw[List.getElem?_take_of_lt (by omega)]
  rw[h1,htk]
  simp[hj]
theorem OwnI.below {w w':World} {base:Nat} {v:Value} {l:List Int} (h:OwnI w base v l) (b:Below w.heap.size w w'):OwnI w' base v l:=by
 obtain⟨hl,h⟩:=h
 refine⟨hl,?_⟩
 rcases h with h|⟨g,cap,cur,hv,hg,hb,rest⟩
 ·exact .inl h
 ·exact .inr ⟨g,cap,cur,hv,hg,by rw[b.block g (Array.getElem?_eq_some_iff.1 hb).1];exact hb,rest⟩
theorem OwnI.mono {w:World} {base base':Nat} {v:Value} {l:List Int} (h:OwnI w base v l) (hb:base'<=base):OwnI w base' v l:=by
 obtain⟨hl,h⟩:=h
 refine⟨hl,?_⟩
 rcases h with h|⟨g,cap,cur,hv,hg,rest⟩
 ·exact .inl h
 ·exact .inr ⟨g,cap,cur,hv,Nat.le_trans hb hg,rest⟩
theorem OwnI.ints {w:World} {base:Nat} {v:Value} {l:List Int} (h:OwnI w base v l):∃ a cap,v=.slice a l.length cap/\l.length<=cap/\Ints w w.heap.size a l:=by
 rcases h.split with⟨rfl,rfl⟩|⟨g,cap,rfl,_,hc,ho⟩
 ·exact⟨none,0,rfl,Nat.le_refl _,.inl rfl⟩
 ·exact⟨_,cap,rfl,hc,ho.ints ho.lt⟩
theorem one_newI (W:World) (s:Int) (t:TypeId):∀ (j:Nat) (u:Value),[(Value.int .i64) s][j]? = some u->(W.alloc (.cells #[.int .i64 s] t)).cell? ((⟨W.heap.size,0,none⟩:Addr).add j)=some u:=by
 intro j u hj
 match j,hj with
 |0,hj=>simp at hj;subst hj;simp[Addr.add]
theorem one_cellI (s:Int):∀ u∈[(Value.int .i64) s],u.oneCell'=true:=by
 intro u hu
 simp at hu
 subst hu
 rfl
theorem OwnI.snoc {w:World} {base:Nat} {v:Value} {l:List Int} {s:Int} (h:w.ownsRow base 2 1 v (l.length+1) (l.map (Value.int .i64)++[.int .i64 s])):OwnI w base v (l++[s]):=by
 unfold OwnI
 rw[List.length_append,List.map_append]
 exact h
theorem app_one {B base:Nat} {e:TypeId} {w0 w w1:World} {v:Value} {n size:Nat} {xs:List Value} {o:Obj} (hbel:Below B w0 w) (hB:B<=w.heap.size) (hBb:B<=base)
  (hown:w.ownsRow base e size v n xs) (hgrow:(w.alloc o).grownBy w1 v.ownBlock):Below B w0 w1:=by
 refine(hbel.alloc hB o).grown hgrow (by simp;omega) ?_
 intro k hk
 exact Nat.le_trans hBb (hown.lt k hk).1
end Go.Proofs.YtikiihjabbmkcaaGreatDoor.In

