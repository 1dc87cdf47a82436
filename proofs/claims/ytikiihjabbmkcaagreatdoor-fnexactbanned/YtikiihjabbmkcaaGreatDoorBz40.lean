/- Texts put together: RangeRoot, AddPlain, AppOpt, AppFresh, AppKeep. -/
import Derived.Test.YtikiihjabbmkcaaGreatDoorBz39
import Derived.Test.YtikiihjabbmkcaaGreatDoorBz38
import Derived.Test.YtikiihjabbmkcaaGreatDoorBz15
import Derived.Test.YtikiihjabbmkcaaGreatDoorBz34
import Derived.ArgAppend
import Derived.Laws.OwnMore
import Derived.Laws.AppendOwn
import Derived.WalkKit
import Derived.Below
/- What both RangeRoot answer. -/
namespace Go.Proofs.YtikiihjabbmkcaaGreatDoor.Tr
open Go.RowKit
open St
open Sh (Vars nodeV nodeV_size nodeR nodeR_yes node_impl digest_impl all_any l03Node_any sha)
def fold (p:List ByteArray):Nat->ByteArray->ByteArray
 |0,h=>h
 |m+1,h=>fold p m (nodeV (p.getD m ⟨#[]⟩) h)
def rootR (n:Int) (p:List ByteArray):ByteArray :=
 if rngB n p=true then (if n=0 then sha ⟨#[]⟩ else fold p (p.length-1) (p.getD (p.length-1) ⟨#[]⟩)) else ⟨#[]⟩
end Go.Proofs.YtikiihjabbmkcaaGreatDoor.Tr


/- What RangeAdd answers; rows that are cut, and append onto them. -/
namespace Go.Proofs.YtikiihjabbmkcaaGreatDoor.Tr
open Go.RowKit
open St
open Sh (Vars leafV nodeV nodeV_size)
def carry (p:List ByteArray):Nat->Nat->ByteArray->List ByteArray
 |0,_,h=>[h]
 |j+1,low,h=>if low%2=1 then carry p j (low/2) (nodeV (p.getD j ⟨#[]⟩) h) else p.take (j+1)++[h]
def addOk (n:Int) (p:List ByteArray) (t:ByteArray):Bool:=rngB n p && decide (n<1000000) && decide (t.size<=100)
def addN (n:Int) (p:List ByteArray) (t:ByteArray):Int:=if 8000<t.size then 0 else if addOk n p t=true then n+1 else n
def addR (n:Int) (p:List ByteArray) (t:ByteArray):List ByteArray:=if 8000<t.size then [] else if addOk n p t=true then carry p p.length n.toNat (leafV t) else p
def Rw (w:World) (base:Nat) (v:Value) (l:List ByteArray):Prop :=
 OwnS w base v l∨∃ g,v=.slice (some ⟨g,0,none⟩) l.length l.length/\base<=g/\∀ j (h:j<l.length),w.cell? ⟨g,j,none⟩=some (.string l[j])
theorem Rw.below {w w':World} {base:Nat} {v:Value} {l:List ByteArray} (h:Rw w base v l) (b:Below w.heap.size w w'):Rw w' base v l:=by
 rcases h with h|⟨g,hv,hg,hc⟩
 ·exact .inl (h.below b)
 ·exact .inr ⟨g,hv,hg,fun j hj=>(b.cell (p:=⟨g,j,none⟩) (World.block_lt_of_cell? w _ (hc j hj))).trans (hc j hj)⟩
theorem Rw.slice {w:World} {base:Nat} {v:Value} {l:List ByteArray} (h:Rw w base v l) (hl:0<l.length):∃ g cap,v=.slice (some ⟨g,0,none⟩) l.length cap/\base<=g/\l.length<=cap/\∀ j (h:j<l.length),w.cell? ⟨g,j,none⟩=some (.string l[j]):=by
 rcases h with h|⟨g,hv,hg,hc⟩
 ·rcases h.split with⟨_,h0⟩|⟨g,cap,hv,hg,hn,ho⟩
  ·subst h0
   simp at hl
  ·exact⟨g,cap,hv,hg,hn,fun j hj=>ho.cell hj⟩
 ·exact⟨g,l.length,hv,hg,Nat.le_refl _,hc⟩
end Go.Proofs.YtikiihjabbmkcaaGreatDoor.Tr


/- append of a slice that came in, nil too, behind a row of the call's own. -/
namespace Go.Proofs.YtikiihjabbmkcaaGreatDoor.Tr
open Go.RowKit
theorem grown_refl (w:World) (row:Option Nat):w.grownBy w row:=⟨rfl,rfl,rfl,Nat.le_refl _,fun _ _ _=>rfl⟩
theorem wpList_append_opt {P:Program} (w:World) {ops:Array Oper} {rest:List Oper} {o:Oper} {a:Act} {Q:Exit->Act->World->Prop} (hgd:o.guard=none) (s x:Operand) (t:TypeId)
  (ho:o.op=.call { callee:=.builtin .append,args:=#[s,x],argTypes:=#[t,t] })
  (base:Nat) (e:TypeId) (i:TypeInfo) (z:Value) (size bytes:Nat) (ht:P.underlying t=some (.slice e)) (hi:P.info? e=some i) (hz:i.zero=some z)
  (hsize:i.size=size) (hby:i.bytes=bytes) (hzs:z.cells.size=size) (hsz:0<size)
  (v:Value) (n:Nat) (xs:List Value) (hs:a.eval s=v) (hown:w.ownsRow base e size v n xs)
  (ad:Option Addr) (m c:Nat) (ha:ad=none->m=0/\c=0) (news:List Value) (hx:a.eval x=.slice ad m c) (hl:news.length=m*size) (hnews:∀ d,ad=some d->∀ j u,news[j]? = some u->w.cell? (d.add j)=some u) (h1:∀ u∈news,u.oneCell'=true)
  (h63:n+m<=maxLen) (hbytes:(n+m)*bytes<=140737488355328) (hbase:base<=w.heap.size)
  (h:∀ v' w',w'.ownsRow base e size v' (n+m) (xs++news)->w.grownBy w' v.ownBlock->(v'=.slice none 0 0↔v=.slice none 0 0/\m=0)->wpList P ops Q rest (a.put o.dst v') w'):wpList P ops Q (o :: rest) a w:=by
 cases ad with
 |some d=>exact wpList_append_own w hgd s x t ho base e i z size bytes ht hi hz hsize hby hzs hsz v n xs hs hown d m c news hx hl (hnews d rfl) h1 h63 hbytes hbase h
 |none =>
  obtain⟨rfl,rfl⟩:=ha rfl
  obtain rfl:news=[]:=List.eq_nil_of_length_eq_zero (by simpa using hl)
  refine wpList_plain hgd fun K hK=>?_
  have hr:=run_append_owned_none (P:=P) (w:=w) base t o.type e i size ht hi v n xs hown
  unfold Oper.wp execOp
  simp only[ho,resolve,invoke,builtin,Sem.run_bind,Sem.run_pure,Result.andThen_ok,List.map_toArray,List.map_cons,List.map_nil,hs,hx,hr]
  exact hK _ _ (h v w (by simpa using hown) (grown_refl _ _) (by simp))
end Go.Proofs.YtikiihjabbmkcaaGreatDoor.Tr


/- An append of some things onto a row of the call's own, or onto one that is empty and has no room: the row behind it lies above a mark. -/
namespace Go.Proofs.YtikiihjabbmkcaaGreatDoor.Ap
open Go.RowKit
def Own0 (w:World) (base:Nat) (e:TypeId) (size:Nat) (v:Value) (n:Nat) (xs:List Value):Prop :=
 (∃ b,v=.slice (some b) 0 0/\n=0/\xs=[])∨w.ownsRow base e size v n xs
theorem Own0.below {w w':World} {base:Nat} {e:TypeId} {size:Nat} {v:Value} {n:Nat} {xs:List Value} (h:Own0 w base e size v n xs) (b:Below w.heap.size w w'):Own0 w' base e size v n xs:=by
 rcases h with h|⟨hl,h⟩
 ·exact .inl h
 ·refine .inr ⟨hl,?_⟩
  rcases h with h|⟨g,cap,cur,hv,hg,hb,rest⟩
  ·exact .inl h
  ·exact .inr ⟨g,cap,cur,hv,hg,by rw[b.block g (Array.getElem?_eq_some_iff.1 hb).1];exact hb,rest⟩
theorem Own0.alloc {w:World} {base:Nat} {e:TypeId} {size:Nat} {v:Value} {n:Nat} {xs:List Value} (h:Own0 w base e size v n xs) (o:Obj):Own0 (w.alloc o) base e size v n xs :=
 h.below ((Below.refl _ _).alloc (Nat.le_refl _) o)
theorem Own0.keep {w w':World} {base:Nat} {e:TypeId} {size:Nat} {v:Value} {n:Nat} {xs:List Value} (h:Own0 w base e size v n xs) (b:∀ k,base<=k->k<w.heap.size->w'.heap[k]? = w.heap[k]?):Own0 w' base e size v n xs:=by
 rcases h with h|⟨hl,h⟩
 ·exact .inl h
 ·refine .inr ⟨hl,?_⟩
  rcases h with h|⟨g,cap,cur,hv,hg,hb,rest⟩
  ·exact .inl h
  ·exact .inr ⟨g,cap,cur,hv,hg,by rw[b g hg (Array.getElem?_eq_some_iff.1 hb).1];exact hb,rest⟩
end Go.Proofs.YtikiihjabbmkcaaGreatDoor.Ap


/- An append of some things onto a row of the call's own, or onto one that is empty and has no room: rows of another element type stay as they were. -/
namespace Go.Proofs.YtikiihjabbmkcaaGreatDoor.Ap
open Go.RowKit
def KeepE (e:TypeId) (W W':World):Prop:=∀ (g:Nat) (cur:Array Value) (t:TypeId),t≠e->W.heap[g]? = some (.cells cur t (0,0))->W'.heap[g]? = some (.cells cur t (0,0))
theorem KeepE.below {e:TypeId} {W W':World} (h:Below W.heap.size W W'):KeepE e W W':=fun g _ _ _ hg=>(h.block g (Array.getElem?_eq_some_iff.1 hg).1).trans hg
theorem keepE_own {W W':World} {base size n:Nat} {e:TypeId} {v:Value} {xs:List Value} (h:W.grownBy W' v.ownBlock) (ho:W.ownsRow base e size v n xs):KeepE e W W':=fun g cur t ht hg=>by
 rw[h.block g (Array.getElem?_eq_some_iff.1 hg).1 (by
  intro hk
  obtain⟨_,ho⟩:=ho
  rcases ho with⟨hv,_⟩|⟨k,cap,cs,hv,_,hb,_⟩
  ·subst hv
   simp[Value.ownBlock]at hk
  ·subst hv
   simp[Value.ownBlock]at hk
   subst hk
   rw[hb]at hg
   simp at hg
   exact ht hg.2.symm)]
 exact hg
theorem run_append_own0k {P:Program} (w:World) (base:Nat) (t ty e:TypeId) (i:TypeInfo) (z:Value) (size bytes:Nat) (ht:P.underlying t=some (.slice e)) (hi:P.info? e=some i) (hz:i.zero=some z)
  (hsize:i.size=size) (hby:i.bytes=bytes) (hzs:z.cells.size=size) (hsz:0<size)
  (v:Value) (n:Nat) (xs:List Value) (hown:Own0 w base e size v n xs)
  (a:Addr) (m c:Nat) (news:List Value) (hl:news.length=m*size) (hnews:∀ j u,news[j]? = some u->w.cell? (a.add j)=some u) (h1:∀ u∈news,u.oneCell'=true) (hm:0<m)
  (h63:n+m<=maxLen) (hbytes:(n+m)*bytes<=140737488355328) (hbase:base<=w.heap.size) :
  ∃ v' w',(Builtin.append_ #[t,t] ty #[v,.slice (some a) m c]).run P w=.ok v' w'/\w'.ownsRow base e size v' (n+m) (xs++news)/\(∀ B,B<=base->Below B w w')/\KeepE e w w':=by
 rcases hown with⟨b,rfl,rfl,rfl⟩|hown
 ·subst hsize
  subst hby
  have hsmall:m<=9223372036854775807:=by simp only[maxLen]at h63;omega
  have hr:=run_append_grow (P:=P) w t ty e i z ht hi hz b 0 0 [] (by simp) (by simp) a m c news hl hnews (by omega) (by omega) (growslice_fits (by omega) hbytes)
  refine⟨_,_,hr,?_,fun B hB=>?_,KeepE.below (((Below.refl _ w).drew).alloc (Nat.le_refl _) _)⟩
  ·have hge:=grownCap_ge w (0+m) 0 e
   have hcm:grownCap w (0+m) 0 e<=maxLen:=grownCap_le_maxLen w (0+m) 0 e h63
   refine⟨by simpa using hl,.inr ⟨w.heap.size,_,_,rfl,hbase,heap_alloc_new w.drew _,hge,hcm,?_,?_⟩⟩
   ·simp only[Array.size_append,List.size_toArray,size_zeroCells,hzs,hl,List.length_nil]
    rw[Nat.zero_add,<-Nat.add_mul]
    congr 1
    omega
   ·simp only[Array.toList_append,List.nil_append]
    rw[show (0+m)*i.size=news.length by rw[Nat.zero_add,hl]]
    exact List.take_left
  ·exact((Below.refl B w).drew).alloc (by simp;omega) _
 ·obtain⟨v',w',hr,h2,h3,_⟩:=run_append_own (P:=P) w base t ty e i z size bytes ht hi hz hsize hby hzs hsz v n xs hown a m c news hl hnews h1 h63 hbytes hbase
  refine⟨v',w',hr,h2,fun B hB=>(Below.refl B w).grown h3 (by omega) ?_,keepE_own h3 hown⟩
  intro k hk
  exact Nat.le_trans hB (hown.lt k hk).1
theorem wpList_append_own0k {P:Program} (w:World) {ops:Array Oper} {rest:List Oper} {o:Oper} {a:Act} {Q:Exit->Act->World->Prop} (hgd:o.guard=none) (s x:Operand) (t:TypeId)
  (ho:o.op=.call { callee:=.builtin .append,args:=#[s,x],argTypes:=#[t,t] })
  (base:Nat) (e:TypeId) (i:TypeInfo) (z:Value) (size bytes:Nat) (ht:P.underlying t=some (.slice e)) (hi:P.info? e=some i) (hz:i.zero=some z)
  (hsize:i.size=size) (hby:i.bytes=bytes) (hzs:z.cells.size=size) (hsz:0<size)
  (v:Value) (n:Nat) (xs:List Value) (hs:a.eval s=v) (hown:Own0 w base e size v n xs)
  (ad:Addr) (m c:Nat) (news:List Value) (hx:a.eval x=.slice (some ad) m c) (hl:news.length=m*size) (hnews:∀ j u,news[j]? = some u->w.cell? (ad.add j)=some u) (h1:∀ u∈news,u.oneCell'=true) (hm:0<m)
  (h63:n+m<=maxLen) (hbytes:(n+m)*bytes<=140737488355328) (hbase:base<=w.heap.size)
  (h:∀ v' w',w'.ownsRow base e size v' (n+m) (xs++news)->(∀ B,B<=base->Below B w w')->KeepE e w w'->wpList P ops Q rest (a.put o.dst v') w'):wpList P ops Q (o :: rest) a w :=
 wpList_plain hgd fun _ hK=>by
  obtain⟨v',w',hr,h2,h3,h4⟩:=run_append_own0k (P:=P) w base t o.type e i z size bytes ht hi hz hsize hby hzs hsz v n xs hown ad m c news hl hnews h1 hm h63 hbytes hbase
  unfold Oper.wp execOp
  simp only[ho,resolve,invoke,builtin,Sem.run_bind,Sem.run_pure,Result.andThen_ok,List.map_toArray,List.map_cons,List.map_nil,hs,hx,hr]
  exact hK _ _ (h v' w' h2 h3 h4)
end Go.Proofs.YtikiihjabbmkcaaGreatDoor.Ap

