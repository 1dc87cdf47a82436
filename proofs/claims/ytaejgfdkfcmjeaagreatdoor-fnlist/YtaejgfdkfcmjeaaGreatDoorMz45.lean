import Derived.Test.YtaejgfdkfcmjeaaGreatDoorMz44
import Derived.Test.YtaejgfdkfcmjeaaGreatDoorMz46
set_option maxRecDepth 100000
set_option maxHeartbeats 8000000
namespace Go.Proofs.YtaejgfdkfcmjeaaGreatDoor
open Go.RowKit
open Go.Proofs.Tryz
namespace Tr
open St
open Sh (nodeV)
def wide (l:List ByteArray):Bool:=l.all (fun s=>decide (s.size=32))
theorem wide_yes (l:List ByteArray):wide l=true↔∀ j (h:j<l.length),l[j].size=32:=by
 unfold wide;simp only[List.all_eq_true,decide_eq_true_eq]
 constructor
 ·intro h j hj
  exact h _ (List.getElem_mem hj)
 ·intro h s hs
  obtain⟨j,hj,rfl⟩:=List.getElem_of_mem hs;exact h j hj
theorem wide_bad (l:List ByteArray) (j:Nat) (hj:j<l.length) (h:¬l[j].size=32):wide l=false:=by
 cases e:wide l with
 |false=>rfl
 |true=>exact absurd ((wide_yes l).1 e j hj) h
theorem digs_impl (a:Option Addr) (cap:Nat) (l:List ByteArray) (most:Nat) (w:World) (B:Nat) (h:Strs w B a l) (hn:l.length<=1048576) :
  Calls prog 79 #[.slice a l.length cap,.int .i64 most] w fun e w'=>e=.returned (.bool (decide (l.length<=most) && wide l))/\w'=w:=by
 have HS:=hideT h;clear h;obtain⟨n,hln⟩:∃ n,n=l.length:=⟨_,rfl⟩;have HLN:=hideT hln;rw[<-hln]at hn ⊢;clear hln;by_cases hbig:most<n
 ·have HR:Hid ((decide (n<=most) && wide l)=false):=by
   unfold Hid;rw[decide_eq_false (by omega)];rfl
  go_enter func79,ntmps79
  go_wp2_with fail
  go_ret;exact⟨ret_bool HR.o.symm,rfl⟩
 ·have HR:Hid ((decide (n<=most) && wide l)=wide l):=by
   unfold Hid;rw[decide_eq_true (by omega)];rfl
  go_enter func79,ntmps79
  go_wp2_with fail
  go_loopw [13] (fun i wr=>∃ k:Nat,i=.int .i64 k/\k<=n/\(∀ j (hj:j<l.length),j<k->l[j].size=32)/\wr=w) (fun i _=>n-(intOf i).toNat)
  case atStart=>exact⟨0,rfl,by omega,fun j hj h0=>by omega,rfl⟩
  case round =>
   obtain⟨k,rfl,hk,hall,hw⟩:=hrel;subst hw;have HA:=hideT hall;clear hall;by_cases hlt:k<n
   ·have hkl:k<l.length:=by rw[<-HLN.o];exact hlt
    obtain⟨b,off,rfl,hb,hc⟩:=HS.o.some (by omega);have ci:=hc k hkl;have HBad:=hideT (wide_bad l k hkl);obtain⟨s,hs⟩:∃ s,s=l[k]:=⟨_,rfl⟩;have HSE:=hideT hs;rw[<-hs]at ci;clear hc hs;by_cases h32:s.size=32
    ·go_wp2_with fail
     go_roundw
     case rel =>
      refine⟨k+1,by go_num,by omega,fun j hj h0=>?_,trivial⟩;by_cases e:j=k
      ·subst e
       rw[<-HSE.o];exact h32
      ·exact HA.o j hj (by omega)
     case measure=>simp[intOf];omega
    ·go_wp2_with fail
     go_ret;exact⟨ret_bool (by rw[HR.o,HBad.o (by rw[<-HSE.o];exact h32)]),rfl⟩
   ·have HY:Hid (wide l=true):=by
     unfold Hid;exact(wide_yes l).2 (fun j hj=>HA.o j hj (by have:=HLN.o;omega))
    (go_wp2_with fail);go_ret;exact⟨ret_bool (by rw[HR.o,HY.o]),rfl⟩
theorem wide_spec (a:Option Addr) (cap:Nat) (l:List ByteArray) (w:World) (B:Nat) (h:Strs w B a l) (hn:l.length<=1048576) :
  Calls prog 114 #[.slice a l.length cap] w fun e w'=>e=.returned (.bool (wide l))/\w'=w:=by
 have HS:=hideT h;clear h;obtain⟨n,hln⟩:∃ n,n=l.length:=⟨_,rfl⟩;have HLN:=hideT hln;rw[<-hln]at hn ⊢;clear hln;go_enter func114,ntmps114
 go_wp2_with fail
 go_loopw [3] (fun i wr=>∃ k:Nat,i=.int .i64 k/\k<=n/\(∀ j (hj:j<l.length),j<k->l[j].size=32)/\wr=w) (fun i _=>n-(intOf i).toNat)
 case atStart=>exact⟨0,rfl,by omega,fun j hj h0=>by omega,rfl⟩
 case round =>
  obtain⟨k,rfl,hk,hall,hw⟩:=hrel;subst hw;have HA:=hideT hall;clear hall;by_cases hlt:k<n
  ·have hkl:k<l.length:=by rw[<-HLN.o];exact hlt
   obtain⟨b,off,rfl,hb,hc⟩:=HS.o.some (by omega);have ci:=hc k hkl;have HBad:=hideT (wide_bad l k hkl);obtain⟨s,hs⟩:∃ s,s=l[k]:=⟨_,rfl⟩;have HSE:=hideT hs;rw[<-hs]at ci;clear hc hs;by_cases h32:s.size=32
   ·go_wp2_with fail
    go_roundw
    case rel =>
     refine⟨k+1,by go_num,by omega,fun j hj h0=>?_,trivial⟩;by_cases e:j=k
     ·subst e
      rw[<-HSE.o];exact h32
     ·exact HA.o j hj (by omega)
    case measure=>simp[intOf];omega
   ·go_wp2_with fail
    go_ret;exact⟨ret_bool (by rw[HBad.o (by rw[<-HSE.o];exact h32)]),rfl⟩
  ·have HY:Hid (wide l=true):=by
    unfold Hid;exact(wide_yes l).2 (fun j hj=>HA.o j hj (by have:=HLN.o;omega))
   go_wp2_with fail
   go_ret;exact⟨ret_bool (by rw[HY.o]),rfl⟩
theorem cutLast_any (b off m cap:Nat) (s:ByteArray) (w:World) (hm:1<=m) (hm2:m<=1048576) (hc:m<=cap) (ci:w.cell? ⟨b,off+(m-1),none⟩=some (.string s)) :
  Calls prog 109 #[.slice (some ⟨b,off,none⟩) m cap] w fun e w'=>e=.returned (.tuple #[.slice (some ⟨b,off,none⟩) (m-1) (m-1),.string s])/\Below w.heap.size w w':=by
 obtain⟨k,rfl⟩:∃ k,m=k+1:=⟨m-1,by omega⟩;rw[show k+1-1=k by omega]at ci ⊢
 have g0:((k+1:Nat):Int)-1=k:=by omega
 have g1:(k:Int)<=cap:=by omega
 have g2:(k:Int)<((k+1:Nat):Int):=by omega
 have g3:¬cap=k:=by omega
 go_enter func109,ntmps109
 go_wp2_with fail
 go_region
 all_goals (try go_wp2_with fail)
 all_goals go_ret2
 all_goals exact⟨rfl,(Below.refl _ _).drew⟩
def incl (n i:Nat) (p:List ByteArray) (h:ByteArray):Option ByteArray:=climbS i (n-1) p h
theorem incl_one (p:List ByteArray) (h:ByteArray):incl 1 0 p h=if p=[] then some h else none:=by
 unfold incl
 cases p with
 |nil=>rw[climbS_nil,if_pos rfl,if_pos rfl]
 |cons x xs=>rw[climbS_zero _ _ _ (by simp),if_neg (by simp)]
theorem incl_none (n i:Nat) (h:ByteArray) (hn:2<=n):incl n i [] h=none:=by
 unfold incl;rw[climbS_nil,if_neg (by omega)]
theorem incl_left (n i:Nat) (q:List ByteArray) (s h:ByteArray) (hn:2<=n) (hi:i<half n):incl n i (q++[s]) h=(incl (half n) i q h).map (fun x=>nodeV x s):=by
 have k3:=half_two n hn;have k2:=half_lt n hn;have hk:half n=2 ^ Nat.log2 (n-1):=rfl
 have e4:2 ^ (Nat.log2 (n-1)+1)=2*half n:=by rw[Nat.pow_succ,hk];omega
 exact climb_left q (Nat.log2 (n-1)) i (n-1) s h (by rw[<-hk];exact hi) (by rw[<-hk];omega) (by rw[e4];omega)
theorem incl_right (n i:Nat) (q:List ByteArray) (s h:ByteArray) (hn:2<=n) (hi:¬i<half n) (hin:i<n):incl n i (q++[s]) h=(incl (n-half n) (i-half n) q h).map (fun x=>nodeV s x):=by
 have k3:=half_two n hn;have k2:=half_lt n hn;have hk:half n=2 ^ Nat.log2 (n-1):=rfl
 have e4:2 ^ (Nat.log2 (n-1)+1)=2*half n:=by rw[Nat.pow_succ,hk];omega
 have:=climb_right q (Nat.log2 (n-1)) i (n-1) s h (by rw[<-hk];omega) (by omega) (by rw[e4];omega)
 unfold incl;rw[this,<-hk,show n-1-half n=n-half n-1 by omega]
end Tr
namespace Tr
open St
open Sh (Vars own_empty)
theorem pathR_yes (l:List ByteArray) (i:Nat) (h:right l=true) (hi:i<l.length):pathR l i=path l i:=by
 unfold pathR;rw[if_pos ⟨h,by omega,by omega⟩];rfl
theorem pathR_no (l:List ByteArray) (i:Int) (h:¬(right l=true/\0<=i/\i<l.length)):pathR l i=[]:=if_neg h
theorem pathR_length (l:List ByteArray) (i:Int):(pathR l i).length<=l.length:=by
 unfold pathR
 split
 ·exact path_length _ l _ nl
 ·simp
theorem pathOf_spec (l:List ByteArray) (n:Nat) (i:Int) (a:Option Addr) (cap B:Nat) (w:World) (hln:l.length=n) (hcap:n<=cap) (hn:n<=1048576) (hs:Strs w B a l) (hB:B<=w.heap.size) :
  Calls prog 24 #[.slice a n cap,.int .i64 i] w fun e w'=>∃ v,e=.returned v/\OwnS w' w.heap.size v (pathR l i)/\Below w.heap.size w w':=by
 have HR:=hideT (right_spec a cap l w B hs (by omega));rw[hln]at HR;have HS:=hideT hs;clear hs;by_cases h400:400<n
 ·have HT:=hideT (pathR_no l i (fun h=>by have:=((right_yes l).1 h.1).1;omega))
  go_enter func24,ntmps24
  go_wp2_with fail
  go_ret;exact⟨_,rfl,by rw[HT.o];exact own_empty _ _ _ nl,(Below.refl _ _).alloc nl _⟩
 ·cases hr:right l with
  |false =>
   have HT:=hideT (pathR_no l i (fun h=>by rw[hr]at h;cases h.1));rw[hr]at HR;go_enter func24,ntmps24
   go_wp2_with fail
   refine HR.o.mono ?_;rintro e w1 ⟨rfl,hw⟩;subst w1
   go_wp2_with fail
   go_ret;exact⟨_,rfl,by rw[HT.o];exact own_empty _ _ _ nl,(Below.refl _ _).alloc nl _⟩
  |true =>
   have HY:=hideT ((right_yes l).1 hr);rw[hr]at HR;by_cases h0:i<0
   ·have HT:=hideT (pathR_no l i (fun h=>by omega))
    go_enter func24,ntmps24;(go_wp2_with fail);refine HR.o.mono ?_;rintro e w1 ⟨rfl,hw⟩;subst w1;(go_wp2_with fail);go_ret;exact⟨_,rfl,by rw[HT.o];exact own_empty _ _ _ nl,(Below.refl _ _).alloc nl _⟩
   ·by_cases h1:(n:Int)<=i
    ·have HT:=hideT (pathR_no l i (fun h=>by omega))
     go_enter func24,ntmps24;(go_wp2_with fail);refine HR.o.mono ?_;rintro e w1 ⟨rfl,hw⟩;subst w1;(go_wp2_with fail);go_ret;exact⟨_,rfl,by rw[HT.o];exact own_empty _ _ _ nl,(Below.refl _ _).alloc nl _⟩
    ·obtain⟨k,rfl⟩:∃ k:Nat,i=k:=⟨i.toNat,by omega⟩
     have HT:=hideT (pathR_yes l k hr (by omega));go_enter func24,ntmps24;(go_wp2_with fail);refine HR.o.mono ?_;rintro e w1 ⟨rfl,hw⟩;subst w1;(go_wp2_with fail);refine(path_spec n n k l a cap B _ nl hln (by omega) (by omega) hcap (by have:=HY.o.1;omega) HY.o.2 HS.o hB).mono ?_;rintro e w2 ⟨v,rfl,ho2,hb2⟩;have HO2:=hideT ho2;clear ho2;(go_wp2_with fail);go_ret;exact⟨_,rfl,by rw[HT.o];exact HO2.o,hb2⟩
end Tr
namespace Tr
open St
def rngB (n:Int) (p:List ByteArray):Bool:=decide (0<=n) && decide (n<=1000000) && decide (p.length=ones n.toNat) && wide p
end Tr
namespace Tr
open St
open Sh (Vars nodeV nodeV_size nodeR nodeR_yes node_impl digest_impl all_any l03Node_any sha)
def fold (p:List ByteArray):Nat->ByteArray->ByteArray
 |0,h=>h
 |m+1,h=>fold p m (nodeV (p.getD m ⟨#[]⟩) h)
def rootR (n:Int) (p:List ByteArray):ByteArray :=
 if rngB n p=true then (if n=0 then sha ⟨#[]⟩ else fold p (p.length-1) (p.getD (p.length-1) ⟨#[]⟩)) else ⟨#[]⟩
end Tr
namespace Tr
open St
open Sh (Vars leafV nodeV nodeV_size)
def carry (p:List ByteArray):Nat->Nat->ByteArray->List ByteArray
 |0,_,h=>[h]
 |j+1,low,h=>if low%2=1 then carry p j (low/2) (nodeV (p.getD j ⟨#[]⟩) h) else p.take (j+1)++[h]
def addOk (n:Int) (p:List ByteArray) (t:ByteArray):Bool:=rngB n p && decide (n<1000000) && decide (t.size<=100)
def addN (n:Int) (p:List ByteArray) (t:ByteArray):Int:=if 8000<t.size then 0 else if addOk n p t=true then n+1 else n
def addR (n:Int) (p:List ByteArray) (t:ByteArray):List ByteArray:=if 8000<t.size then [] else if addOk n p t=true then carry p p.length n.toNat (leafV t) else p
def Rw (w:World) (base:Nat) (v:Value) (l:List ByteArray):Prop :=
 OwnS w base v l∨∃ g,v=.slice (some ⟨g,0,none⟩) l.length l.length/\base<=g/\∀ j (h:j<l.length),w.cell? ⟨g,j,none⟩=some (.string l[j])
theorem grown_refl (w:World) (row:Option Nat):w.grownBy w row:=⟨rfl,rfl,rfl,nl,fun _ _ _=>rfl⟩
theorem wpList_append_opt {P:Program} (w:World) {ops:Array Oper} {rest:List Oper} {o:Oper} {a:Act} {Q:Exit->Act->World->Prop} (hgd:o.guard=none) (s x:Operand) (t:TypeId)
  (ho:o.op=.call { callee:=.builtin .append,args:=#[s,x],argTypes:=#[t,t] })
  (base:Nat) (e:TypeId) (i:TypeInfo) (z:Value) (size bytes:Nat) (ht:P.underlying t=some (.slice e)) (hi:P.info? e=some i) (hz:i.zero=some z)
  (hsize:i.size=size) (hby:i.bytes=bytes) (hzs:z.cells.size=size) (hsz:0<size)
  (v:Value) (n:Nat) (xs:List Value) (hs:a.eval s=v) (hown:w.ownsRow base e size v n xs)
  (ad:Option Addr) (m c:Nat) (ha:ad=none->m=0/\c=0) (news:List Value) (hx:a.eval x=.slice ad m c) (hl:news.length=m*size) (hnews:∀ d,ad=some d->∀ j u,news[j]? = some u->w.cell? (d.add j)=some u) (h1:∀ u∈news,u.oneCell'=true)
  (h63:n+m<=maxLen) (hbytes:(n+m)*bytes<=140737488355328) (hbase:base<=w.heap.size)
  (h:∀ v' w',w'.ownsRow base e size v' (n+m) (xs++news)->w.grownBy w' v.ownBlock->(v'=.slice none 0 0↔v=.slice none 0 0/\m=0)->wpList P ops Q rest (a.put o.dst v') w'):wpList P ops Q (o :: rest) a w:=by
 cases ad with
 |some d=>exact wpList_append_own w hgd s x t ho base e i z size bytes ht hi hz hsize hby hzs hsz v n xs hs hown d m c news hx hl (hnews d rfl) h1 h63 hbytes hbase h
 |none =>
  obtain⟨rfl,rfl⟩:=ha rfl;obtain rfl:news=[]:=List.eq_nil_of_length_eq_zero (by simpa using hl);refine wpList_plain hgd fun K hK=>?_;have hr:=run_append_owned_none (P:=P) (w:=w) base t o.type e i size ht hi v n xs hown;unfold Oper.wp execOp;simp only[ho,resolve,invoke,builtin,Sem.run_bind,Sem.run_pure,Result.andThen_ok,List.map_toArray,List.map_cons,List.map_nil,hs,hx,hr];exact hK _ _ (h v w (by simpa using hown) (grown_refl _ _) (by simp))
end Tr
namespace Dr
open St (OwnS Strs one_newS one_cellS)
open Kp (hideK lt_rowK)
open Sh (made_row strF strF_size)
open Tr (pathR pathOf_spec wpList_append_opt)
theorem Tryz.infoTW:(prog.info? 9).map (fun i=>(i.zero,i.size,i.bytes))=some (some (.string ⟨#[]⟩),1,16):=by kernel_rfl
def PieceOut (B:Nat) (a:Option Addr) (len cap:Nat) (w:World) (e:Ending) (w':World):Prop :=
 ∃ (k:Int) (t:ByteArray) (v:Value) (q:List ByteArray),e=.returned (.tuple #[.int .i64 k,.string t,v])/\t.size<=60/\OwnS w' w.heap.size v q/\q.length<=66/\Src w' B a len cap/\Aft B w w'
theorem ownS_litD (W:World):OwnS (W.alloc (.cells #[] 9)) W.heap.size (.slice (some ⟨W.heap.size,0,none⟩) 0 0) [] :=
 ⟨rfl,.inr ⟨W.heap.size,0,#[],rfl,nl,heap_alloc_new W _,nl,by decide,rfl,rfl⟩⟩
theorem strs_news {W:World} {B:Nat} {a:Option Addr} {l:List ByteArray} (h:Strs W B a l):∀ d,a=some d->∀ j u,(l.map Value.string)[j]? = some u->W.cell? (d.add j)=some u:=by
 intro d hd j u hu
 have hj:j<l.length:=by
  have:=(List.getElem?_eq_some_iff.1 hu).1
  rwa[List.length_map]at this
 rcases h with rfl|⟨b,off,rfl,_,hc⟩
 ·cases hj
 ·cases hd
  rw[List.getElem?_map,List.getElem?_eq_getElem hj]at hu;rw[Addr.add_lit,hc j hj];exact hu
theorem strs_oneD (l:List ByteArray):∀ u∈l.map Value.string,u.oneCell'=true:=by
 intro u hu;obtain⟨x,_,rfl⟩:=List.mem_map.1 hu;rfl
theorem ownS_aftD {B base:Nat} {w w':World} {v:Value} {l:List ByteArray} (h:OwnS w base v l) (ha:Aft B w w') (hB:B<base):OwnS w' base v l:=by
 obtain⟨hl,h⟩:=h;refine⟨hl,?_⟩
 rcases h with h|⟨g,cap,cur,hv,hg,hb,rest⟩
 ·exact .inl h
 ·exact .inr ⟨g,cap,cur,hv,hg,(ha.block g (lt_rowK hb) (by omega)).trans hb,rest⟩
theorem ownS_allocD {w:World} {base:Nat} {v:Value} {l:List ByteArray} (h:OwnS w base v l) (o:Obj):OwnS (w.alloc o) base v l:=h.below ((Below.refl _ _).alloc nl o)
theorem path_sizes:∀ (f:Nat) (l:List ByteArray) (m:Nat),l.length<=f->∀ s∈Tr.path l m,s.size<=1048576:=by
 intro f
 induction f with
 |zero =>
  intro l m hf s hs;rw[Tr.path_one l m (by omega)]at hs
  cases hs
 |succ f ih =>
  intro l m hf s hs;by_cases h1:l.length<=1
  ·rw[Tr.path_one l m h1]at hs
   cases hs
  ·have h2:=Tr.half_lt l.length (by omega)
   have h3:=Tr.half_pos l.length;by_cases hi:m<Tr.half l.length
   ·rw[Tr.path_left l m (by omega) hi]at hs
    rcases List.mem_append.1 hs with h|h
    ·exact ih _ _ (by rw[List.length_take];omega) s h
    ·rw[List.mem_singleton.1 h,Tr.tree_size]
     decide
   ·rw[Tr.path_right l m (by omega) hi]at hs
    rcases List.mem_append.1 hs with h|h
    ·exact ih _ _ (by rw[List.length_drop];omega) s h
    ·rw[List.mem_singleton.1 h,Tr.tree_size]
     decide
theorem pathR_sizes (l:List ByteArray) (i:Int):∀ s∈pathR l i,s.size<=1048576:=by
 intro s hs;unfold pathR at hs
 split at hs
 ·exact path_sizes _ l _ nl s hs
 ·cases hs
theorem ownS_set0 {W:World} {base g n cap:Nat} {l:List ByteArray} (h:OwnS W base (.slice (some ⟨g,0,none⟩) n cap) l) (s:ByteArray):OwnS (W.setCell ⟨g,0,none⟩ (.string s)) base (.slice (some ⟨g,0,none⟩) n cap) (l.set 0 s):=by
 obtain⟨hl,h⟩:=h
 rcases h with⟨h,_⟩|⟨g',cap',cur,hv,hg,hb,h1,h2,h3,h4⟩
 ·cases h
 ·obtain⟨rfl,hln,rfl⟩:g=g'/\n=l.length/\cap=cap':=by simp at hv;exact hv
  refine⟨by rw[List.length_map,Nat.mul_one],.inr ⟨g,cap,cur.setIfInBounds 0 (.string s),by rw[List.length_set,hln],hg,heap_setCell_same W g 0 _ _ _ hb,by rw[List.length_set];exact h1,h2,by rw[Array.size_setIfInBounds];exact h3,?_⟩⟩;rw[Array.toList_setIfInBounds,List.length_set,List.map_set,<-h4,List.take_set]
theorem piece7_any (B base0:Nat) (a:Option Addr) (len cap:Nat) (vp:Value) (p:List ByteArray) (w:World) (hl:len<=1048576) (hs:Src w B a len cap) (hp:OwnS w base0 vp p) (hB:B<base0) (hlen:p.length<=64) (hsz:∀ s∈p,s.size<=53) :
  Calls prog 40 #[.pointer (some ⟨B,0,none⟩),vp] w fun e w'=>PieceOut B a len cap w e w':=by
 obtain⟨i0,hi0,hz0,hz1,hz2⟩:=info_parts Tryz.infoTW;obtain⟨j0,hj0,hy0,hy1,hy2⟩:=info_parts Tryz.infoD5;have hBl:=hs.lt;have HS:=hideK hs;have HP:=hideK hp;have HSZ:=hideK hsz;obtain⟨ap,cp,hv,hcp,hst⟩:=hp.strs;subst hv;generalize hpn:p.length=n at hlen hcp HP ⊢;have HN:=hideK hpn;clear hs hp hsz hpn
 rcases Nat.eq_zero_or_pos n with h0|h0
 ·subst h0
  go_enter func40,ntmps40
  go_wp2_with fail
  refine(n_any B a len cap 2 _ hl (by omega) HS.o).mono ?_;rintro e w1 ⟨r,rfl,p0,p1,hs1,ho1⟩;have S1:=hideK (src_alloc hs1 (.cells #[] 9));have A1:=hideK (aft_alloc6 ho1.aft (.cells #[] 9));have O1:=hideK ((ownS_litD w1).mono (ho1.aft.size));clear hs1 ho1
  go_wp2_with fail
  exact bodyPost_ret (v:=.tuple #[.int .i64 r,.string ⟨#[120]⟩,.slice (some ⟨w1.heap.size,0,none⟩) 0 0]) (by simp[results,results40,go_sem]) rfl ⟨r,_,_,[],rfl,by decide,O1.o,by simp,S1.o,A1.o⟩
 ·have h0'':((n:Int)==0)=false:=by simp;omega
  obtain⟨gp,hap,hgb,hcl⟩:∃ gp,ap=some ⟨gp,0,none⟩/\base0<=gp/\St.IsO w gp 9 p:=by
   rcases HP.o.split with⟨_,h⟩|⟨g,c',hv,hg,_,ho⟩
   ·rw[h]at HN;have:=HN.o;simp at this;omega
   ·simp at hv;exact⟨g,hv.1,hg,ho⟩
  subst hap;have HCL:=hideK hcl;clear hst hcl;go_enter func40,ntmps40
  go_wp2_with fail
  refine(n_any B a len cap (n:Int) _ hl (by omega) HS.o).mono ?_;rintro e w1 ⟨r,rfl,p0,p1,hs1,ho1⟩;obtain⟨k,rfl⟩:=Int.eq_ofNat_of_zero_le p0
  have hk:k<n:=by omega
  have hk':(k:Int)<(n:Int):=by omega
  have hkp:k<p.length:=by rw[HN.o];exact hk
  have X1:=hideK (HCL.o.of_heap (ho1.2.2.2.2 gp (by omega)));have c1:=X1.o.cell hkp;have hts:=HSZ.o p[k] (List.getElem_mem hkp);generalize p[k]=t at c1 hts;have S1:=hideK hs1;have A1:=hideK ho1.aft;have Z1:Hid (w1.heap.size=w.heap.size):=ho1.2.2.2.1;have L1:=hideK (ownS_litD w1);have BW:Hid (Below w1.heap.size w1 (w1.alloc (.cells #[] 9))):=(Below.refl _ _).alloc nl _;have HPO:=hideK (pathOf_spec p n k (some ⟨gp,0,none⟩) cp (w1.alloc (.cells #[] 9)).heap.size (w1.alloc (.cells #[] 9)) HN.o hcp (by omega) ((X1.o.below BW.o X1.o.lt).strs (Nat.lt_of_lt_of_le X1.o.lt BW.o.size)) nl);have HQL:=hideK (Tr.pathR_length p k);rw[HN.o]at HQL;have HQS:=hideK (pathR_sizes p k);generalize pathR p (k:Int)=q at HPO HQL HQS;clear hs1 ho1 p0 p1 hkp;have hzz:=BW.o.size
  go_upto_region 5 with fail
  go_wp2_with fail
  generalize w1.alloc (.cells #[] 9)=W1 at L1 BW HPO hzz ⊢;refine HPO.o.mono ?_;rintro e w2 ⟨v2,rfl,ho2,hb2⟩;have L2:=hideK (L1.o.below hb2);have B2:=hideK (Ls.lowL BW.o hb2);obtain⟨a2,c2,hv2,hc2,hst2⟩:=ho2.strs;have HST2:=hideK hst2;subst hv2
  have hn2:a2=none->q.length=0/\c2=0:=fun h=>by
   rcases ho2.split with⟨hv,hq⟩|⟨g,c',hv,_⟩
   ·simp at hv;exact⟨by rw[hq];rfl,hv.2.2⟩
   ·simp at hv;rw[h]at hv;cases hv.1
  have HN2:=hideK hn2;have hz2':w1.heap.size<=w2.heap.size:=B2.o.size;clear hb2 ho2 hst2 hn2 L1 BW HPO hzz;have hql:=HQL.o;generalize hqq:q.length=ql at hql hc2 HN2 ⊢;have HQQ:=hideK hqq;clear hqq
  go_wp2_with (at_builtin;refine wpList_append_opt _ rfl (.tmp 24) (.tmp 27) 34 rfl w1.heap.size 9 i0 (.string ⟨#[]⟩) 1 16 underlying34 hi0 hz0 hz1 hz2 rfl (by decide) (.slice (some ⟨w1.heap.size,0,none⟩) 0 0) 0 [] rfl L2.o a2 ql c2 HN2.o (q.map Value.string) rfl (by rw[List.length_map,HQQ.o,Nat.mul_one]) (strs_news HST2.o) (strs_oneD _) (by unfold maxLen;omega) (by omega) hz2' ?_)
  intro v3 w3 hown3 hgrow3 _
  have O3:Hid (OwnS w3 w.heap.size v3 q):=by
   have h3:OwnS w3 w1.heap.size v3 q:=by
    unfold OwnS;rw[HQQ.o]
    simpa using hown3
   exact h3.mono (by have:=Z1.o;omega)
  have B3:Hid (Below w1.heap.size w1 w3):=B2.o.grown hgrow3 hz2' (fun g hg=>by simp[Value.ownBlock]at hg;omega);have S3:=hideK (S1.o.below B3.o);have A3:=hideK (A1.o.trans (aft_below B3.o));obtain⟨a3,c3,hv3,hc3,_⟩:=O3.o.strs;rw[HQQ.o]at hv3 hc3;subst hv3;clear hown3 hgrow3 c1 L2 B2 S1 A1 HST2 HN2 X1
  go_wp2_with fail
  refine(one_any B a len cap 4 _ hl (by omega) S3.o).mono ?_;rintro e w4 ⟨r4,rfl,hs4,ho4⟩;have S4:=hideK hs4;have A4:=hideK (A3.o.trans ho4.aft);have O4:=hideK (ownS_aftD O3.o ho4.aft hBl);clear hs4 ho4 S3 A3 O3
  cases r4 with
  |false =>
   go_wp2_with fail
   exact bodyPost_ret (v:=.tuple #[.int .i64 k,.string t,(.slice a3 ql c3)]) (by simp[results,results40,go_sem]) rfl ⟨k,t,(.slice a3 ql c3),q,rfl,by omega,O4.o,by rw[HQQ.o];omega,S4.o,A4.o⟩
  |true =>
   go_wp2_with fail
   refine(n_any B a len cap 4 _ hl (by omega) S4.o).mono ?_;rintro e w5 ⟨r5,rfl,p0,p1,hs5,ho5⟩;obtain⟨j,rfl⟩:=Int.eq_ofNat_of_zero_le p0;have S5:=hideK hs5;have A5:=hideK (A4.o.trans ho5.aft);have O5:=hideK (ownS_aftD O4.o ho5.aft hBl);clear hs5 ho5 S4 A4 O4
   have hj4:j=0∨j=1∨j=2∨j=3:=by omega
   clear p0 p1
   rcases hj4 with rfl|rfl|rfl|rfl
   ·go_wp2_with fail
    refine(spoil_any B a len cap t _ hl (by omega) S5.o).mono ?_;rintro e w6 ⟨t6,ht6,rfl,hs6,ha6⟩;have S6:=hideK hs6;have A6:=hideK (A5.o.trans ha6);have O6:=hideK (ownS_aftD O5.o ha6 hBl);clear hs6 ha6;(go_wp2_with fail);exact bodyPost_ret (v:=.tuple #[.int .i64 k,.string t6,(.slice a3 ql c3)]) (by simp[results,results40,go_sem]) rfl ⟨k,t6,(.slice a3 ql c3),q,rfl,by omega,O6.o,by rw[HQQ.o];omega,S6.o,A6.o⟩
   ·go_wp2_with fail
    refine(n_any B a len cap 3 _ hl (by omega) S5.o).mono ?_;rintro e w6 ⟨r6,rfl,p0,p1,hs6,ho6⟩;have S6:=hideK hs6;have A6:=hideK (A5.o.trans ho6.aft);have O6:=hideK (ownS_aftD O5.o ho6.aft hBl);have hr6:r6<3:=(by omega);have hw1:IntKind.i64.wrap ((k:Int)+r6)=(k:Int)+r6:=(by rw[IntKind.wrap_i64];omega);have hw2:IntKind.i64.wrap ((k:Int)+r6-1)=(k:Int)+r6-1:=(by rw[IntKind.wrap_i64];omega);clear hs6 ho6;(go_wp2_with fail);exact bodyPost_ret (v:=.tuple #[.int .i64 ((k:Int)+r6-1),.string t,(.slice a3 ql c3)]) (by simp[results,results40,go_sem]) rfl ⟨((k:Int)+r6-1),t,(.slice a3 ql c3),q,rfl,by omega,O6.o,by rw[HQQ.o];omega,S6.o,A6.o⟩
   ·have hz5:=A5.o.size
    obtain⟨u32,hu32⟩:∃ u,u=strF 32 (fun _=>0):=⟨_,rfl⟩;have HU:=hideK hu32;clear hu32
    go_wp2_with (first|(at_make;refine wpList_make_full _ rfl (.const (.int .i64 32)) (.const (.int .i64 32)) 22 rfl w5.heap.size 5 j0 (.int .u8 0) 1 underlying22 hj0 hy0 hy1 .i64 .i64 _ _ 32 rfl rfl (by simp) (by simp) (by rw[hy2];omega) (by unfold maxLen;omega) nl ?_;intro w6 hown6 hgrow6;have hT6:=made_row hown6;have hb6:=(Below.refl w5.heap.size w5).grown hgrow6 nl (by simp);have hcv:=hT6.str (f:=fun _=>0) (P:=prog) (src:=22) (dst:=9) 32 32 nl (fun j _=>by decide) underlying22 underlying5 underlying9;have S6:=hideK (S5.o.below hb6);have A6:=hideK (A5.o.trans (aft_below hb6));have O6:=hideK (O5.o.below hb6);rw[<-HU.o]at hcv;have hz6:=A6.o.size;clear hown6 hgrow6 hT6 hb6)|(at_builtin;refine wpList_append_own _ rfl (.tmp 57) (.tmp 60) 34 rfl w.heap.size 9 i0 (.string ⟨#[]⟩) 1 16 underlying34 hi0 hz0 hz1 hz2 rfl (by decide) (.slice a3 ql c3) ql (q.map Value.string) rfl (by have:=ownS_allocD O6.o (.cells #[.string u32] 9);unfold OwnS at this;rw[HQQ.o]at this;exact this) ⟨w6.heap.size,0,none⟩ 1 1 [.string u32] rfl rfl (one_newS _ _ _) (one_cellS _) (by unfold maxLen;omega) (by omega) (by simp;omega) ?_))
    intro v7 w7 hown7 hgrow7 _
    have O7:Hid (OwnS w7 w.heap.size v7 (q++[u32])):=by
     refine OwnS.snoc ?_;rw[HQQ.o];exact hown7
    have B7:=hideK (St.app_one (B:=w.heap.size) (Below.refl w.heap.size w6) hz6 nl O6.o hgrow7);have A7:=hideK (aft_more A6.o B7.o);have S7:=hideK (S6.o.stays (fun k hk=>B7.o.block k (by omega)));obtain⟨a7,c7,hv7,_,_⟩:=O7.o.strs;have hl7:(q++[u32]).length=ql+1:=(by rw[List.length_append,HQQ.o];rfl);rw[hl7]at hv7;subst hv7;have HL7:=hideK hl7;clear hown7 hgrow7 hl7;(go_wp2_with fail);exact bodyPost_ret (v:=.tuple #[.int .i64 k,.string t,(.slice a7 (ql+1) c7)]) (by simp[results,results40,go_sem]) rfl ⟨k,t,(.slice a7 (ql+1) c7),(q++[u32]),rfl,by omega,O7.o,by rw[HL7.o];omega,S7.o,A7.o⟩
   ·by_cases hq0:0<ql
    ·have hq0':(0:Int)<(ql:Int):=by omega
     obtain⟨g3,hg3,hbb3,hi3⟩:∃ g3,a3=some ⟨g3,0,none⟩/\w.heap.size<=g3/\St.IsO w5 g3 9 q:=by
      rcases O5.o.split with⟨_,h⟩|⟨g,c',hv,hg,_,ho⟩
      ·rw[h]at HQQ;have:=HQQ.o;simp at this;omega
      ·simp at hv;exact⟨g,hv.1,hg,ho⟩
     subst hg3;have c0:=hi3.cell (j:=0) (by rw[HQQ.o];exact hq0);obtain⟨s0,hs0,hsz0⟩:∃ s0:ByteArray,w5.cell? ⟨g3,0,none⟩=some (.string s0)/\s0.size<=1048576:=⟨_,c0,HQS.o _ (List.getElem_mem _)⟩;clear c0 hi3;(go_wp2_with fail);refine(spoil_any B a len cap s0 _ hl hsz0 S5.o).mono ?_;rintro e w6 ⟨t6,ht6,rfl,hs6,ha6⟩;have S6:=hideK (src_set' hs6 (g:=g3) (i:=0) (by omega) (.string t6));have A6:=hideK (aft_set (A5.o.trans ha6) hbb3 (i:=0) (.string t6));have O6:=hideK (ownS_aftD O5.o ha6 hBl);have O7:=hideK (ownS_set0 O6.o t6)
     obtain⟨c6,f6⟩:(∃ x,w6.cell? ⟨g3,0,none⟩=some (.string x))/\w6.frozen? ⟨g3,0,none⟩=false:=by
      rcases O6.o.split with⟨_,h⟩|⟨g,c',hv,hg,_,ho⟩
      ·rw[h]at HQQ;have:=HQQ.o;simp at this;omega
      ·obtain rfl:g3=g:=by simp at hv;exact hv.1
       exact⟨⟨_,ho.cell (j:=0) (by rw[HQQ.o];exact hq0)⟩,ho.frozen 0⟩
     obtain⟨x6,c6⟩:=c6;clear hs6 ha6 hs0;(go_wp2_with fail);exact bodyPost_ret (v:=.tuple #[.int .i64 k,.string t,(.slice (some ⟨g3,0,none⟩) ql c3)]) (by simp[results,results40,go_sem]) rfl ⟨k,t,(.slice (some ⟨g3,0,none⟩) ql c3),(q.set 0 t6),rfl,by omega,O7.o,by rw[List.length_set,HQQ.o];omega,S6.o,A6.o⟩
    ·have hq0':¬(0:Int)<(ql:Int):=by omega
     (go_wp2_with fail);exact bodyPost_ret (v:=.tuple #[.int .i64 k,.string t,(.slice a3 ql c3)]) (by simp[results,results40,go_sem]) rfl ⟨k,t,(.slice a3 ql c3),q,rfl,by omega,O5.o,by rw[HQQ.o];omega,S5.o,A5.o⟩
end Dr
namespace Dr
open St (OwnS Strs)
open Kp (hideK lt_rowK)
open Ls (cells3)
def WayDraw (w:World) (e:Ending) (w':World):Prop:=∃ (k n:Int) (t:ByteArray) (v:Value) (q:List ByteArray),e=.returned (.tuple #[.int .i64 k,.int .i64 n,.string t,v])/\0<=n/\t.size<=60/\OwnS w' w.heap.size v q/\q.length<=66/\Below w.heap.size w w'
def FitsDraw (w:World) (e:Ending) (w':World):Prop:=∃ (z b:Int) (r:ByteArray) (k:Int) (t:ByteArray) (v:Value) (q:List ByteArray),e=.returned (.tuple #[.agg #[.int .i64 z,.int .i64 b,.string r],.int .i64 k,.string t,v])/\r.size<=32/\t.size<=60/\OwnS w' w.heap.size v q/\q.length<=66/\Below w.heap.size w w'
theorem drawFits_any (a:Option Addr) (len cap:Nat) (w:World) (hl:len<=1048576) (hr:Row w w.heap.size a len) (hof:OfC) (hpc:PcC) :
  Calls prog 11 #[.slice a len cap] w fun e w'=>FitsDraw w e w':=by
 have HC:=hideK (fun B W (h:Src W B a len cap)=>case7_any B a len cap W hl h hof hpc);have C0:Hid ((w.alloc (.cells #[.int .i64 0,.int .i64 0,.string ⟨#[]⟩] 26)).heap[w.heap.size]? = some (.cells #[.int .i64 0,.int .i64 0,.string ⟨#[]⟩] 26 (0,0))):=heap_alloc_new w _;have B0:Hid (Below w.heap.size w (w.alloc (.cells #[.int .i64 0,.int .i64 0,.string ⟨#[]⟩] 26))):=(Below.refl _ _).alloc nl _;have HSO:Hid (Calls _ _ _ _ _):=source_any a len cap (w.alloc (.cells #[.int .i64 0,.int .i64 0,.string ⟨#[]⟩] 26)) hl ((hr.below B0.o).mono B0.o.size)
 have hz0:(w.alloc (.cells #[.int .i64 0,.int .i64 0,.string ⟨#[]⟩] 26)).heap.size=w.heap.size+1:=by simp
 have HZ0:=hideK hz0;clear hz0 hr hof hpc;go_enter func11,ntmps11
 go_wp2_with fail
 generalize w.alloc (.cells #[.int .i64 0,.int .i64 0,.string ⟨#[]⟩] 26)=W0 at C0 B0 HSO HZ0 ⊢;generalize hB:W0.heap.size=B at HSO HZ0 ⊢;have HB:=hideK hB;clear hB;refine HSO.o.mono ?_;rintro e w1 ⟨rfl,hs1,hb1,hz1⟩;have S1:=hideK hs1;have X1:=hideK ((hb1.block _ (by have:=HZ0.o;omega)).trans C0.o);have B1:=hideK (B0.o.trans (hb1.mono (by have:=HZ0.o;omega)));have hBl:=hs1.lt;clear hs1 hb1 hz1 C0 B0 HSO
 go_wp2_with fail
 refine(HC.o _ _ S1.o).mono ?_;rintro e w2 ⟨t2,z2,b2,r2,v2,l2,rfl,hr2,ho2,hl2,hs2,hsr2,ha2⟩;have S2:=hideK (src_alloc hsr2 (.cells #[.int .i64 z2,.int .i64 b2,.string r2] 26));have X2:=hideK (Ls.blk_alloc ((ha2.block _ (lt_rowK X1.o) (by have:=HZ0.o;omega)).trans X1.o) (.cells #[.int .i64 z2,.int .i64 b2,.string r2] 26));have Y2:Hid ((w2.alloc (.cells #[.int .i64 z2,.int .i64 b2,.string r2] 26)).heap[w2.heap.size]? = some (.cells #[.int .i64 z2,.int .i64 b2,.string r2] 26 (0,0))):=heap_alloc_new w2 _;have B2:=hideK ((ha2.below B1.o (by have:=HZ0.o;omega) (by have:=B1.o.size;omega)).alloc (by have:=B1.o.size;have:=ha2.size;omega) (.cells #[.int .i64 z2,.int .i64 b2,.string r2] 26));have O2:=hideK (ownS_allocD ho2 (.cells #[.int .i64 z2,.int .i64 b2,.string r2] 26))
 have hz2:w.heap.size<w2.heap.size:=by have:=HZ0.o;have:=ha2.size;omega
 have hz2b:B<w2.heap.size:=by have:=ha2.size;omega
 have HP:=hideK (piece7_any B w1.heap.size a len cap v2 l2 _ hl S2.o O2.o hBl hl2 hs2);obtain⟨av2,cv2,hv2,_,_⟩:=ho2.strs;subst hv2;clear ha2 hsr2 ho2 S1 X1 B1 O2
 go_upto_region 3 with fail
 generalize w2.alloc _=W2 at S2 X2 Y2 B2 HP ⊢;generalize w2.heap.size=g2 at Y2 hz2 hz2b ⊢
 go_wp2_with fail
 refine HP.o.mono ?_;rintro e w3 ⟨k3,t3,v3,q3,rfl,ht3,ho3,hq3,hs3,ha3⟩;have X3:=hideK ((ha3.block _ (lt_rowK X2.o) (by have:=HZ0.o;omega)).trans X2.o);have Y3:=hideK ((ha3.block _ (lt_rowK Y2.o) (by omega)).trans Y2.o);have B3:=hideK (ha3.below B2.o (by have:=HZ0.o;omega) B2.o.size);have O3:=hideK (ho3.mono B2.o.size);obtain⟨av3,cv3,hv3,_,_⟩:=ho3.strs;subst hv3;clear ha3 hs3 ho3 HP;obtain⟨y0,y1,y2⟩:=cells3 Y3.o;obtain⟨x0,x1,x2⟩:=cells3 X3.o;have ff:=fun o=>frozen_of_row w3 w.heap.size o _ _ X3.o;have s3:=set3_allD X3.o (.int .i64 z2) (.int .i64 b2) (.string r2);have O4:=hideK (ownS_set3 O3.o X3.o (by decide) (.int .i64 z2) (.int .i64 b2) (.string r2));have B4:=hideK (((B3.o.setCell (p:=⟨w.heap.size,0,none⟩) nl (.int .i64 z2)).setCell (p:=⟨w.heap.size,1,none⟩) nl (.int .i64 b2)).setCell (p:=⟨w.heap.size,2,none⟩) nl (.string r2))
 go_wp2_with fail
 exact bodyPost_ret (v:=.tuple #[.agg #[.int .i64 z2,.int .i64 b2,.string r2],.int .i64 k3,.string t3,.slice av3 q3.length cv3]) (by simp[results,results11,go_sem,s3.1,s3.2.1,s3.2.2]) rfl ⟨z2,b2,r2,k3,t3,_,q3,rfl,hr2,ht3,O4.o,hq3,B4.o⟩
end Dr
end Go.Proofs.YtaejgfdkfcmjeaaGreatDoor
