/- Texts put together: HrSrch, HrPlain, HrPut, HrAct, HrSet. -/
import Derived.Test.YtpddanmnlkcdpaaGreatDoorHz47
import Derived.Deep.CutRange
import Derived.Test.YtpddanmnlkcdpaaGreatDoorHz40
import Derived.Test.YtpddanmnlkcdpaaGreatDoorHz27
import Derived.Test.YtpddanmnlkcdpaaGreatDoorHz34
set_option maxRecDepth 100000
set_option maxHeartbeats 8000000
namespace Go.Proofs.YtpddanmnlkcdpaaGreatDoor.Hr
open Go.RowKit
open Kp (hideK lt_rowK)
open Pe
open In (Ints OwnI)
open Tk (rises_fresh)
def posI (l:List Int) (x:Int):Nat:=(l.takeWhile fun y=>decide (y<x)).length
theorem posI_of {l:List Int} {x:Int}:∀ {i:Nat},i<=l.length->(∀ t (h:t<l.length),t<i->l[t]<x)->(∀ (h:i<l.length),¬l[i]<x)->posI l x=i:=by
 induction l with
 |nil=>intro i hi _ _;simp at hi;subst hi;rfl
 |cons y xs ih =>
  intro i hi h1 h2
  cases i with
  |zero =>
   have:=h2 (by simp)
   unfold posI
   rw[List.takeWhile_cons]
   simp at this
   simp[this]
  |succ i =>
   have h0:=h1 0 (by simp) (by omega)
   have:=ih (i:=i) (by simpa using hi) (fun t ht hti=>h1 (t+1) (by simpa using ht) (by omega)) (fun h=>h2 (by simpa using h))
   unfold posI at this ⊢
   rw[List.takeWhile_cons]
   simp at h0
   simp[h0,this]
theorem posI_le (l:List Int) (x:Int):posI l x<=l.length:=(List.takeWhile_sublist _).length_le
theorem nan_any (x:Int) (w:World):Calls Tryz.prog 181 #[.int .i64 x] w fun e w'=>e=.returned (.bool false)/\w'=w:=by
 have hx:(x != x)=false:=by simp
 go_enter Tryz.func181,Tryz.ntmps181
 go_wp2_with fail
 go_ret
 exact⟨rfl,rfl⟩
theorem less_any (x y:Int) (w:World):Calls Tryz.prog 149 #[.int .i64 x,.int .i64 y] w fun e w'=>e=.returned (.bool (decide (x<y)))/\w'=w:=by
 have HN:=hideK (fun W=>nan_any x W)
 go_enter Tryz.func149,Tryz.ntmps149
 go_wp2_with fail
 refine(HN.out _).mono ?_
 rintro e w1 ⟨rfl,hw⟩
 subst w1
 clear HN
 go_wp2_with fail
 go_ret
 exact⟨rfl,rfl⟩
theorem nanS_any (x:Int) (w:World):Calls Tryz.prog 185 #[.int .i64 x] w fun e w'=>e=.returned (.bool false)/\w'=w:=by
 have hx:(x != x)=false:=by simp
 go_enter Tryz.func185,Tryz.ntmps185
 go_wp2_with fail
 go_ret
 exact⟨rfl,rfl⟩
structure SrI (l:List Int) (x:Int) (n i j:Nat):Prop where
 ij:i<=j
 jn:j<=n
 lo:∀ t (ht:t<l.length),t<i->l[t]<x
 hi:∀ t (ht:t<l.length),j<=t->¬l[t]<x
def RisI (l:List Int):Prop:=∀ i j (hi:i<l.length) (hj:j<l.length),i<j->l[i]<l[j]
theorem risI_of {l:List Int} {c:Int} (h:RisesTo l c l.length):RisI l:=fun i j _ hj hij=>rises_fresh h j i hj hij
theorem search_any (a:Option Addr) (n cap:Nat) (l:List Int) (x:Int) (w:World) (h:Ints w w.heap.size a l) (hl:l.length=n) (hn:n<=1048576) (hr:RisI l) :
  Calls Tryz.prog 155 #[.slice a n cap,.int .i64 x] w fun e w'=>e=.returned (.tuple #[.int .i64 ((posI l x:Nat):Int),.bool (decide (x∈l))])/\w'=w:=by
 have H0:=hideK h
 have HM:=hideK hl
 have HR:=hideK hr
 clear h hl hr
 go_enter Tryz.func155,Tryz.ntmps155
 go_wp2_with fail
 go_loopw [7,8,9] (fun iv jv _ wr=>∃ i j:Nat,iv=.int .i64 i/\jv=.int .i64 j/\SrI l x n i j/\wr=w) (fun iv jv _ _=>(intOf jv).toNat-(intOf iv).toNat)
 case atStart=>exact⟨0,n,rfl,rfl,⟨Nat.zero_le _,Nat.le_refl _,fun t _ h=>absurd h (by omega),fun t ht h=>absurd ht (by have:=HM.out;omega)⟩,rfl⟩
 case round =>
  obtain⟨i,j,rfl,rfl,hs,hw⟩:=hrel
  subst hw
  have hij:=hs.ij
  have hjn:=hs.jn
  have S0:=hideK hs
  clear hs
  by_cases hlt:i<j
  ·have hlti:(i:Int)<(j:Int):=by omega
   have hltd:decide ((i:Int)<(j:Int))=true:=by simp;omega
   have hadd:IntKind.i64.wrap ((i:Int)+(j:Int))=(i:Int)+(j:Int):=by rw[IntKind.wrap_i64];omega
   have hu:IntKind.u64.wrap ((i:Int)+(j:Int))=(i:Int)+(j:Int):=by rw[IntKind.wrap_u64];omega
   obtain⟨k,hmid,hki,hkj⟩:∃ k:Nat,((i:Int)+(j:Int))/2=(k:Int)/\i<=k/\k<j:=⟨(i+j)/2,by omega,by omega,by omega⟩
   have hkm:k<l.length:=by have:=HM.out;omega
   have hk0:(0:Int)<=(k:Int):=by omega
   have hkn:(k:Int)<(n:Int):=by omega
   have hkn':¬(n:Int)<=(k:Int):=by omega
   have hkw:IntKind.i64.wrap ((k:Int)+1)=(k:Int)+1:=by rw[IntKind.wrap_i64];omega
   obtain⟨b,off,ha,hb,hc⟩:∃ b off,a=some ⟨b,off,none⟩/\b<wr.heap.size/\∀ t (ht:t<l.length),wr.cell? ⟨b,off+t,none⟩=some (.int .i64 l[t]):=by
    rcases H0.out with h|h
    ·rw[h]at hkm;simp at hkm
    ·exact h
   subst ha
   have ck:=hc k hkm
   have HLO:Hid (l[k]<x->SrI l x n (k+1) j):=fun hz=>⟨by omega,hjn,fun t ht htk=>by
    by_cases e:t=k
    ·subst e;exact hz
    ·have:=HR.out t k ht hkm (by omega)
     omega,S0.out.hi⟩
   have HHI:Hid (¬l[k]<x->SrI l x n i k):=fun hz=>⟨hki,by omega,S0.out.lo,fun t ht htk=>by
    by_cases e:t=k
    ·subst e;exact hz
    ·have:=HR.out k t hkm ht (by omega)
     omega⟩
   have HL:=hideK (fun W=>less_any l[k] x W)
   generalize l[k]=xk at ck HLO HHI HL
   clear hc
   by_cases hz:xk<x
   ·have S1:=hideK (HLO.out hz)
    rw[decide_eq_true hz]at HL
    clear hz HLO HHI
    go_wp2_with fail
    refine(HL.out _).mono ?_
    rintro e w1 ⟨rfl,hw⟩
    subst w1
    go_wp2_with fail
    go_roundw
    case rel=>exact⟨k+1,j,by go_num,rfl,S1.out,by trivial⟩
    case measure=>simp[intOf];omega
   ·have S1:=hideK (HHI.out hz)
    rw[decide_eq_false hz]at HL
    clear hz HLO HHI
    go_wp2_with fail
    refine(HL.out _).mono ?_
    rintro e w1 ⟨rfl,hw⟩
    subst w1
    go_wp2_with fail
    go_roundw
    case rel=>exact⟨i,k,rfl,rfl,S1.out,by trivial⟩
    case measure=>simp[intOf];omega
  ·have hlti:¬(i:Int)<(j:Int):=by omega
   have hltd:decide ((i:Int)<(j:Int))=false:=by simp;omega
   obtain rfl:i=j:=by omega
   have HPO:Hid (posI l x=i):=posI_of (by have:=HM.out;omega) S0.out.lo (fun h=>S0.out.hi i h (Nat.le_refl _))
   by_cases hin:i<n
   ·have hinI:(i:Int)<(n:Int):=by omega
    have hinD:decide ((i:Int)<(n:Int))=true:=by simp;omega
    have him:i<l.length:=by have:=HM.out;omega
    obtain⟨b,off,ha,hb,hc⟩:∃ b off,a=some ⟨b,off,none⟩/\b<wr.heap.size/\∀ t (ht:t<l.length),wr.cell? ⟨b,off+t,none⟩=some (.int .i64 l[t]):=by
     rcases H0.out with h|h
     ·rw[h]at him;simp at him
     ·exact h
    subst ha
    have ck:=hc i him
    have HMM:Hid (decide (x∈l)=(l[i]==x)):=by
     unfold Hid
     by_cases e:l[i]=x
     ·rw[decide_eq_true (by rw[<-e];exact List.getElem_mem him)]
      simp[e]
     ·rw[decide_eq_false (fun hx=>by
       obtain⟨t,ht,et⟩:=List.getElem_of_mem hx
       by_cases h1:t<i
       ·have:=S0.out.lo t ht h1
        omega
       ·by_cases h2:t=i
        ·subst h2;exact e et
        ·have h3:=HR.out i t him ht (by omega)
         have h4:=S0.out.hi i him (Nat.le_refl _)
         omega)]
      simp[e]
    have HN:=hideK (fun W=>nanS_any l[i] W)
    generalize l[i]=xi at ck HMM HN
    clear hc
    by_cases he:xi=x
    ·have heb:(xi==x)=true:=beq_iff_eq.2 he
     rw[heb]at HMM
     clear HN he
     go_wp2_with fail
     go_ret2
     exact⟨by rw[HPO.out,HMM.out];rfl,rfl⟩
    ·have heb:(xi==x)=false:=by simp[he]
     rw[heb]at HMM
     clear he
     go_wp2_with fail
     refine(HN.out _).mono ?_
     rintro e w1 ⟨rfl,hw⟩
     subst w1
     go_wp2_with fail
     go_ret2
     exact⟨by rw[HPO.out,HMM.out];rfl,rfl⟩
   ·have hinI:¬(i:Int)<(n:Int):=by omega
    have hinD:decide ((i:Int)<(n:Int))=false:=by simp;omega
    have HMM:Hid (decide (x∈l)=false):=by
     unfold Hid
     rw[decide_eq_false (fun hx=>by
      obtain⟨t,ht,et⟩:=List.getElem_of_mem hx
      have:=S0.out.lo t ht (by have:=HM.out;omega)
      omega)]
    go_wp2_with fail
    go_ret2
    exact⟨by rw[HPO.out,HMM.out];rfl,rfl⟩
end Go.Proofs.YtpddanmnlkcdpaaGreatDoor.Hr


/- What a peer hears, in plain words. -/
namespace Go.Proofs.YtpddanmnlkcdpaaGreatDoor.Hr
open Go.RowKit
open Kp
open Pe
open Pl
open Pm
open Tk (tellL OthR peer_oths tell_len rises_fresh)
open Ls (countN countN_le)
def withI (l:List Int) (x:Int):List Int:=if x∈l then l else l.take (posI l x)++[x]++l.drop (posI l x)
def lessI (l:List Int) (x:Int):List Int:=if x∈l then l.eraseIdx (posI l x) else l
def dropO (o:Oth) (i:Int):Oth:=if o.asked=i+1 then ⟨o.name,o.has,0,0,o.strikes⟩ else o
def strikeO (o:Oth):Oth:=if o.strikes+1=3 then ⟨o.name,[],0,0,o.strikes+1⟩ else ⟨o.name,o.has,o.asked,o.age,o.strikes+1⟩
def haveO (o:Oth) (i:Int):Oth:=⟨o.name,withI o.has i,o.asked,o.age,o.strikes⟩
def noO (o:Oth) (i:Int):Oth:=dropO ⟨o.name,lessI o.has i,o.asked,o.age,o.strikes⟩ i
def findR (rs:List Rec) (i:Int):Option Rec:=rs.find? fun r=>r.1==i
def askL (nm:ByteArray) (i:Int):Option Rec->Snt
 |none=>⟨nm,4,i,⟨#[]⟩,[]⟩
 |some r=>⟨nm,3,i,r.2.1,r.2.2⟩
structure HO where
 s:ByteArray
 y:Int
 os:List Oth
 ss:List Snt
def fullB (fit:Rec->Bool) (s:ByteArray) (x:Rec):Bool:=!fit x || hasR (allR fit s).1 x.1 || decide (8000<(s++recT x).size)
def pieceH (fit:Rec->Bool) (fb:Rec->Bool) (s:ByteArray) (y:Int) (l:List Oth) (j:Nat) (o:Oth) (x:Rec):HO :=
 if fb x=false then ⟨s,y,l.set j (strikeO (dropO o x.1)),[]⟩
 else if ¬o.asked=x.1+1 then ⟨s,y,l,[]⟩
 else if fullB fit s x=true then ⟨s,y,l.set j (dropO o x.1),[]⟩
 else ⟨s++recT x,(s++recT x).size,l.set j (dropO o x.1),tellL (l.set j (dropO o x.1)) x.1⟩
def deedH (fit:Rec->Bool) (fb:Rec->Bool) (s:ByteArray) (y:Int) (l:List Oth) (j:Nat) (o:Oth) (k:Int) (x:Rec):HO :=
 if k=1 then ⟨s,y,l.set j (haveO o x.1),[]⟩
 else if k=2 then ⟨s,y,l,[askL o.name x.1 (findR (allR fit s).1 x.1)]⟩
 else if k=3 then pieceH fit fb s y l j o x
 else if k=4 then ⟨s,y,l.set j (noO o x.1),[]⟩
 else ⟨s,y,l,[]⟩
def hearH (fit:Rec->Bool) (fb:Rec->Bool) (c:Nat) (s:ByteArray) (y:Int) (l:List Oth) (j:Nat) (o:Oth) (k:Int) (x:Rec):HO :=
 if o.strikes=3∨¬(0<=x.1/\x.1<(c:Int)) then ⟨s,y,l,[]⟩ else deedH fit fb s y l j o k x
def zO:Oth:=⟨⟨#[]⟩,[],0,0,0⟩
noncomputable def hearP (fit:Rec->Bool) (fb:Rec->Bool) (z b:Int) (r s:ByteArray) (y:Int) (l:List Oth) (nm:ByteArray) (k:Int) (x:Rec):PO :=
 if 8000<nm.size then ill 2 else if peerB fit z b r s y l=false then ill 1 else if hasN l nm=false then ill 6
 else ⟨z,b,r,(hearH fit fb (countN z b r) s y l (posN l nm) (l.getD (posN l nm) zO) k x).s,(hearH fit fb (countN z b r) s y l (posN l nm) (l.getD (posN l nm) zO) k x).y,(hearH fit fb (countN z b r) s y l (posN l nm) (l.getD (posN l nm) zO) k x).os,(hearH fit fb (countN z b r) s y l (posN l nm) (l.getD (posN l nm) zO) k x).ss,0⟩
theorem drop_has (o:Oth) (i:Int):(dropO o i).has=o.has/\(dropO o i).name=o.name/\(dropO o i).strikes=o.strikes:=by
 unfold dropO
 split
 ·exact⟨rfl,rfl,rfl⟩
 ·exact⟨rfl,rfl,rfl⟩
theorem drop_not {o:Oth} {i:Int} (h:¬o.asked=i+1):dropO o i=o:=if_neg h
theorem posI_mem {l:List Int} {x:Int} (hr:RisI l) (h:x∈l):∃ hp:posI l x<l.length,l[posI l x]=x:=by
 obtain⟨t,ht,e⟩:=List.getElem_of_mem h
 have:posI l x=t:=posI_of (Nat.le_of_lt ht) (fun q hq hqt=>by rw[<-e];exact hr q t hq ht hqt) (fun _=>by rw[e];omega)
 subst this
 exact⟨ht,e⟩
theorem less_filter {l:List Int} {x:Int} (hr:RisI l):l.filter (fun y=>decide (y≠x))=lessI l x:=by
 have hne:∀ (m:List Int),¬x∈m->m.filter (fun y=>decide (y≠x))=m:=fun m hm=>by
  rw[List.filter_eq_self]
  intro y hy
  rw[decide_eq_true_eq]
  exact fun e=>hm (by rw[<-e];exact hy)
 unfold lessI
 by_cases h:x∈l
 ·rw[if_pos h]
  obtain⟨hp,he⟩:=posI_mem hr h
  have hs:l=l.take (posI l x)++l[posI l x] :: l.drop (posI l x+1):=by
   rw[<-List.drop_eq_getElem_cons hp,List.take_append_drop]
  rw[List.eraseIdx_eq_take_drop_succ]
  generalize hq:posI l x=q at hp he hs ⊢
  have h1:¬x∈l.take q:=fun hx=>by
   obtain⟨t,ht,e⟩:=List.getElem_of_mem hx
   rw[List.length_take]at ht
   rw[List.getElem_take]at e
   have:=hr t q (by omega) hp (by omega)
   omega
  have h2:¬x∈l.drop (q+1):=fun hx=>by
   obtain⟨t,ht,e⟩:=List.getElem_of_mem hx
   rw[List.length_drop]at ht
   rw[List.getElem_drop]at e
   have:=hr q (q+1+t) hp (by omega) (by omega)
   omega
  conv=>lhs;rw[hs]
  rw[List.filter_append,List.filter_cons_of_neg (by rw[he];simp),hne _ h1,hne _ h2]
 ·rw[if_neg h]
  exact hne l h
theorem with_len (l:List Int) (x:Int):(withI l x).length<=l.length+1:=by
 unfold withI
 split
 ·omega
 ·rw[List.length_append,List.length_append,List.length_take,List.length_drop,List.length_singleton]
  have:=posI_le l x
  omega
theorem less_len (l:List Int) (x:Int):(lessI l x).length<=l.length:=by
 unfold lessI
 split
 ·rw[List.length_eraseIdx]
  split<;>omega
 ·exact Nat.le_refl _
theorem othR_few {c:Nat} {o:Oth} (h:OthR (c:Int) o):o.has.length<=c:=by
 have hr:=h.rs
 have key:∀ n,(hn:n<o.has.length)->(n:Int)<=o.has[n]:=by
  intro n
  induction n with
  |zero=>intro hn;exact(hr 0 hn hn).1
  |succ n ih =>
   intro hn
   have h1:=ih (by omega)
   have h2:=rises_fresh hr (n+1) n hn (by omega)
   omega
 by_cases h0:o.has.length=0
 ·omega
 ·have h1:=key (o.has.length-1) (by omega)
  have h2:=(hr (o.has.length-1) (by omega) (by omega)).2.1
  omega
end Go.Proofs.YtpddanmnlkcdpaaGreatDoor.Hr


/- The program: one of the others turns, whatever it has. -/
namespace Go.Proofs.YtpddanmnlkcdpaaGreatDoor.Tk
open Go.RowKit
open Kp
open Pe
open Pl
open Hr
open In (Ints OwnI)
open Ls (lowL blk_alloc)
theorem cellsO_put:∀ (m:List MO) (i:Nat) (x:MO) (_:i<m.length),cellsO (m.set i x)=(((((cellsO m).set (i*5) (.string x.1.name)).set (i*5+1) x.2).set (i*5+2) (.int .i64 x.1.asked)).set (i*5+3) (.int .i64 x.1.age)).set (i*5+4) (.int .i64 x.1.strikes)
 |y :: m,0,x,_=>by
  rw[List.set_cons_zero,cellsO,cellsO]
  rfl
 |y :: m,i+1,x,h=>by
  rw[List.set_cons_succ,cellsO,cellsO,cellsO_put m i x (Nat.lt_of_succ_lt_succ h),show (i+1)*5=i*5+5 by omega,show i*5+5+1=(i*5+1)+5 by omega,show i*5+5+2=(i*5+2)+5 by omega,show i*5+5+3=(i*5+3)+5 by omega,show i*5+5+4=(i*5+4)+5 by omega]
  rfl
theorem set_same {l:List Value} {k:Nat} {v:Value} (hk:l[k]? = some v):l.set k v=l:=by
 apply List.ext_getElem?
 intro t
 rw[List.getElem?_set]
 split
 ·rename_i e
  subst e
  split
  ·exact hk.symm
  ·rename_i hlt
   rw[List.getElem?_eq_none (by omega)]at hk
   cases hk
 ·rfl
def FewL (ms:List ML):Prop:=(∀ x∈ms,x.2=.slice none 0 0/\x.1.path=[])∨ms.length=1
def KeepH (W W':World):Prop:=W.heap.size<=W'.heap.size/\∀ (k:Nat) (o:Obj),W.heap[k]? = some o->(∀ (cs:Array Value) (T:TypeId),o=.cells cs T (0,0)->T≠78/\T≠114/\T≠86/\T≠2)->W'.heap[k]? = some o
theorem KeepH.below {W W':World} (h:Below W.heap.size W W'):KeepH W W':=⟨h.size,fun k _ hk _=>(h.block k (lt_rowK hk)).trans hk⟩
theorem KeepH.trans {A B C:World} (h:KeepH A B) (g:KeepH B C):KeepH A C:=⟨Nat.le_trans h.1 g.1,fun k o hk ho=>g.2 k o (h.2 k o hk ho) ho⟩
theorem KeepY.keepH {W W':World} (h:KeepY W W'):KeepH W W':=⟨h.1,fun k o hk ho=>h.2 k o hk (fun cs T e=>⟨(ho cs T e).1,(ho cs T e).2.1,(ho cs T e).2.2.1⟩)⟩
theorem own_ty {W:World} {base k n g:Nat} {e:TypeId} {v:Value} {xs:List Value} (h:W.ownsRow base e k v n xs) (hg:v.ownBlock=some g):∃ cs,W.heap[g]? = some (.cells cs e (0,0)):=by
 obtain⟨_,h⟩:=h
 rcases h with⟨h,_⟩|⟨g',cap,cur,hv,_,hb,_⟩
 ·subst h;simp[Value.ownBlock]at hg
 ·subst hv
  simp[Value.ownBlock]at hg
  subst hg
  exact⟨cur,hb⟩
theorem own_stay {W W':World} {base k n:Nat} {e:TypeId} {v:Value} {xs:List Value} (h:W.ownsRow base e k v n xs) (hk:∀ g,v.ownBlock=some g->∀ o,W.heap[g]? = some o->W'.heap[g]? = some o):W'.ownsRow base e k v n xs:=by
 obtain⟨hl,h⟩:=h
 refine⟨hl,?_⟩
 rcases h with h|⟨g,cap,cur,hv,hg,hb,rest⟩
 ·exact .inl h
 ·exact .inr ⟨g,cap,cur,hv,hg,hk g (by rw[hv];rfl) _ hb,rest⟩
theorem WS.putV {w W W':World} {gw go n co j:Nat} {u:Value} {e z b:Int} {r s:ByteArray} {y:Int} {vs:Value} {mo:List MO} {ms:List ML} {mr:List MR} (h:WS w W gw u e z b r s y (.slice (some ⟨go,0,none⟩) n co) vs mo ms mr) (hj:j<mo.length) (x:Oth) (v:Value)
  (hI:OwnI W' w.heap.size v x.has) (hv:v.ownBlock=mo[j].2.ownBlock∨∀ k,v.ownBlock=some k->W.heap.size<=k)
  (hrow:W'.ownsRow w.heap.size 86 5 (.slice (some ⟨go,0,none⟩) n co) n (cellsO (mo.set j (x,v))))
  (hk:∀ k o,W.heap[k]? = some o->k≠go->mo[j].2.ownBlock≠some k->W'.heap[k]? = some o) (hlow:Below w.heap.size w W') (hz:W.heap.size<=W'.heap.size):WS w W' gw u e z b r s y (.slice (some ⟨go,0,none⟩) n co) vs (mo.set j (x,v)) ms mr/\KeepH W W':=by
 have hn:=h.oths.2
 have R0:W.ownsRow w.heap.size 86 5 (.slice (some ⟨go,0,none⟩) n co) n (cellsO mo):=by have:=h.orow;unfold OwnO at this;rwa[hn]at this
 obtain⟨cur,hb⟩:=own_blk R0
 have hI0:=h.has mo[j] (List.getElem_mem hj)
 have hgw:=h.gwb
 unfold wpB at hgw
 have ne1:∀ (k:Nat) (cs:Array Value) (T:TypeId),W.heap[k]? = some (.cells cs T (0,0))->T≠86->k≠go:=fun k cs T hc hT=>ty_ne hc hb hT
 have ne2:∀ (k:Nat) (cs:Array Value) (T:TypeId),W.heap[k]? = some (.cells cs T (0,0))->T≠2->mo[j].2.ownBlock≠some k:=fun k cs T hc hT e=>by
  obtain⟨cs',hc'⟩:=own_ty hI0 e
  exact ty_ne hc hc' hT rfl
 have st:∀ (k:Nat) (cs:Array Value) (T:TypeId),W.heap[k]? = some (.cells cs T (0,0))->T≠86->T≠2->W'.heap[k]? = some (.cells cs T (0,0)):=fun k cs T hc h1 h2=>hk k _ hc (ne1 k cs T hc h1) (ne2 k cs T hc h2)
 have stay:∀ {E:TypeId} {K N:Nat} {V:Value} {XS:List Value},W.ownsRow w.heap.size E K V N XS->E≠86->E≠2->W'.ownsRow w.heap.size E K V N XS:=fun ho h1 h2=>own_stay ho fun g hg o hgo=>by
  obtain⟨cs,hc⟩:=own_ty ho hg
  rw[hc]at hgo
  cases hgo
  exact st g cs _ hc h1 h2
 refine⟨⟨hlow,h.gw0,?_,?_,?_,?_,stay h.srow (by decide) (by decide),h.nl,stay h.rrow (by decide) (by decide),h.rsl⟩,hz,fun k o hko hne=>?_⟩
 ·unfold wpB
  exact st gw _ 78 hgw (by decide) (by decide)
 ·unfold OwnO
  rw[List.length_set,hn]
  exact hrow
 ·intro q hq
  obtain⟨t,ht,rfl⟩:=List.getElem_of_mem hq
  rw[List.length_set]at ht
  rw[List.getElem_set]
  split
  ·exact hI
  ·rename_i hjt
   have hI1:=h.has mo[t] (List.getElem_mem ht)
   refine own_stay hI1 fun g hg o hgo=>?_
   obtain⟨cs,hc⟩:=own_ty hI1 hg
   refine hk g o hgo (ne1 g cs 2 hc (by decide)) fun e'=>?_
   have hp:=List.pairwise_iff_getElem.1 h.ap
   by_cases hlt:j<t
   ·exact hp j t hj ht hlt g e' hg
   ·exact hp t j ht hj (by omega) g hg e'
 ·have hp:=List.pairwise_iff_getElem.1 h.ap
  have key:∀ t (ht:t<mo.length),t≠j->∀ g,v.ownBlock=some g->mo[t].2.ownBlock≠some g:=fun t ht hne g hg e'=>by
   rcases hv with hv|hv
   ·rw[hv]at hg
    by_cases hlt:j<t
    ·exact hp j t hj ht hlt g hg e'
    ·exact hp t j ht hj (by omega) g e' hg
   ·have h1:=hv g hg
    have h2:=(World.ownsRow.lt (h.has mo[t] (List.getElem_mem ht)) g e').2
    omega
  refine List.pairwise_iff_getElem.2 fun i t hi ht hit g hg=>?_
  rw[List.length_set]at hi ht
  rw[List.getElem_set]at hg ⊢
  by_cases e1:j=i
  ·rw[if_pos e1]at hg
   rw[if_neg (by omega)]
   exact key t ht (by omega) g hg
  ·rw[if_neg e1]at hg
   by_cases e2:j=t
   ·rw[if_pos e2]
    exact fun e'=>key i hi (by omega) g e' hg
   ·rw[if_neg e2]
    exact hp i t hi ht hit g hg
 ·refine hk k o hko (fun e'=>?_) (fun e'=>?_)
  ·subst e'
   rw[hb]at hko
   cases hko
   exact(hne _ _ rfl).2.2.1 rfl
  ·obtain⟨cs',hc'⟩:=own_ty hI0 e'
   rw[hc']at hko
   cases hko
   exact(hne _ _ rfl).2.2.2 rfl
theorem WS.putC {w W W':World} {gw go n co j:Nat} {u:Value} {e z b:Int} {r s:ByteArray} {y:Int} {vs:Value} {mo:List MO} {ms:List ML} {mr:List MR} (h:WS w W gw u e z b r s y (.slice (some ⟨go,0,none⟩) n co) vs mo ms mr) (hj:j<mo.length) (x:Oth) (v:Value)
  (hx:v=mo[j].2/\x.has=mo[j].1.has∨v=.slice none 0 0/\x.has=[])
  (hrow:W'.ownsRow w.heap.size 86 5 (.slice (some ⟨go,0,none⟩) n co) n (cellsO (mo.set j (x,v)))) (hgr:W.grownBy W' (some go)):WS w W' gw u e z b r s y (.slice (some ⟨go,0,none⟩) n co) vs (mo.set j (x,v)) ms mr/\KeepH W W':=by
 have hn:=h.oths.2
 have R0:W.ownsRow w.heap.size 86 5 (.slice (some ⟨go,0,none⟩) n co) n (cellsO mo):=by have:=h.orow;unfold OwnO at this;rwa[hn]at this
 obtain⟨cur,hb⟩:=own_blk R0
 have hgo:w.heap.size<=go:=(World.ownsRow.lt R0 go rfl).1
 have hk:∀ k o,W.heap[k]? = some o->k≠go->W'.heap[k]? = some o:=fun k o hk hne=>(hgr.block k (lt_rowK hk) (fun e=>hne (Option.some.inj e))).trans hk
 refine WS.putV h hj x v ?_ ?_ hrow (fun k o h1 h2 _=>hk k o h1 h2) (h.low.grown hgr h.low.size (fun q hq=>by cases hq;exact hgo)) hgr.size
 ·rcases hx with⟨rfl,hh⟩|⟨rfl,hh⟩
  ·rw[hh]
   exact own_others (h.has mo[j] (List.getElem_mem hj)) hb (by decide) hk
  ·rw[hh]
   exact OwnI.nil _ _
 ·rcases hx with⟨rfl,_⟩|⟨rfl,_⟩
  ·exact .inl rfl
  ·exact .inr fun k hk=>by simp[Value.ownBlock]at hk
theorem WS.putH {w W W1 W2:World} {gw go n co j:Nat} {u:Value} {e z b:Int} {r s:ByteArray} {y:Int} {vs:Value} {mo:List MO} {ms:List ML} {mr:List MR} (h:WS w W gw u e z b r s y (.slice (some ⟨go,0,none⟩) n co) vs mo ms mr) (hj:j<mo.length) (l:List Int) (v:Value)
  (hb1:Below W.heap.size W W1) (hg2:W1.grownBy W2 mo[j].2.ownBlock) (hI:OwnI W2 w.heap.size v l) (hv:v.ownBlock=mo[j].2.ownBlock∨∀ k,v.ownBlock=some k->W1.heap.size<=k) :
  WS w (W2.setCell ⟨go,j*5+1,none⟩ v) gw u e z b r s y (.slice (some ⟨go,0,none⟩) n co) vs (mo.set j (⟨mo[j].1.name,l,mo[j].1.asked,mo[j].1.age,mo[j].1.strikes⟩,v)) ms mr/\KeepH W (W2.setCell ⟨go,j*5+1,none⟩ v):=by
 have hn:=h.oths.2
 have R0:W.ownsRow w.heap.size 86 5 (.slice (some ⟨go,0,none⟩) n co) n (cellsO mo):=by have:=h.orow;unfold OwnO at this;rwa[hn]at this
 obtain⟨cur,hb⟩:=own_blk R0
 have hgo:w.heap.size<=go:=(World.ownsRow.lt R0 go rfl).1
 have hI0:=h.has mo[j] (List.getElem_mem hj)
 have hk2:∀ k o,W.heap[k]? = some o->mo[j].2.ownBlock≠some k->W2.heap[k]? = some o:=fun k o hk hne=>(hg2.block k (Nat.lt_of_lt_of_le (lt_rowK hk) hb1.size) (fun e=>hne e.symm)).trans ((hb1.block k (lt_rowK hk)).trans hk)
 have hgoI:mo[j].2.ownBlock≠some go:=fun e=>by
  obtain⟨cs,hc⟩:=own_ty hI0 e
  exact ty_ne hb hc (by decide) rfl
 have R2:W2.ownsRow w.heap.size 86 5 (.slice (some ⟨go,0,none⟩) n co) n (cellsO mo):=own_stay R0 fun g hg o ho=>by
  cases hg
  exact hk2 go o ho hgoI
 have R3:=own_set (p:=j*5+1) R2 v
 have hz2:=hg2.size
 have hz1:=hb1.size
 have hc:=cellsO_at mo j hj
 have hv2:v.ownBlock≠some go:=fun e=>by
  obtain⟨cs,hcs⟩:=own_ty hI e
  exact ty_ne (hk2 go _ hb hgoI) hcs (by decide) rfl
 refine WS.putV h hj ⟨mo[j].1.name,l,mo[j].1.asked,mo[j].1.age,mo[j].1.strikes⟩ v ?_ ?_ ?_ (fun k o h1 h2 h3=>?_) ?_ ?_
 ·exact own_stay hI fun g hg o ho=>by
   rw[heap_setCell_other W2 _ g _ (by exact fun e=>hv2 (by rw[hg,e]))]
   exact ho
 ·rcases hv with hv|hv
  ·exact .inl hv
  ·exact .inr fun k hk=>Nat.le_trans hz1 (hv k hk)
 ·rw[cellsO_put mo j _ hj]
  dsimp only
  rw[set_same hc.1]
  have e1:((cellsO mo).set (j*5+1) v)[j*5+2]? = some (.int .i64 mo[j].1.asked):=by rw[List.getElem?_set_ne (by omega)];exact hc.2.2.1
  have e2:((cellsO mo).set (j*5+1) v)[j*5+3]? = some (.int .i64 mo[j].1.age):=by rw[List.getElem?_set_ne (by omega)];exact hc.2.2.2.1
  have e3:((cellsO mo).set (j*5+1) v)[j*5+4]? = some (.int .i64 mo[j].1.strikes):=by rw[List.getElem?_set_ne (by omega)];exact hc.2.2.2.2
  rw[set_same e1,set_same e2,set_same e3]
  exact R3
 ·rw[heap_setCell_other W2 _ k _ (by exact h2)]
  exact hk2 k o h1 h3
 ·refine(Below.grown (lowL h.low hb1) hg2 (Nat.le_trans h.low.size hz1) (fun q hq=>?_)).setCell (p:=⟨go,j*5+1,none⟩) hgo v
  exact(World.ownsRow.lt hI0 q hq).1
 ·simp
  omega
end Go.Proofs.YtpddanmnlkcdpaaGreatDoor.Tk


namespace Go.Proofs.YtpddanmnlkcdpaaGreatDoor.Tk
open Go.RowKit
open Kp
open Pe
open Pl
open Hr
open In (Ints OwnI)
open Ls (lowL blk_alloc)
theorem WS.row {w W:World} {gw go n co:Nat} {u:Value} {e z b:Int} {r s:ByteArray} {y:Int} {vs:Value} {mo:List MO} {ms:List ML} {mr:List MR} (h:WS w W gw u e z b r s y (.slice (some ⟨go,0,none⟩) n co) vs mo ms mr):W.ownsRow w.heap.size 86 5 (.slice (some ⟨go,0,none⟩) n co) n (cellsO mo):=by
 have:=h.orow
 unfold OwnO at this
 rwa[h.oths.2]at this
theorem WS.five {w W:World} {gw go n co j:Nat} {u:Value} {e z b:Int} {r s:ByteArray} {y:Int} {vs:Value} {mo:List MO} {ms:List ML} {mr:List MR} (h:WS w W gw u e z b r s y (.slice (some ⟨go,0,none⟩) n co) vs mo ms mr) (hj:j<mo.length):FiveAt W go (j*5) mo[j]/\(∀ t,W.frozen? ⟨go,t,none⟩=false)/\∃ ax cx,mo[j].2=.slice ax mo[j].1.has.length cx/\mo[j].1.has.length<=cx/\Ints W W.heap.size ax mo[j].1.has:=by
 have hc:=cellsO_at mo j hj
 have R:=h.row
 refine⟨⟨(own_cell R hc.1).1,(own_cell R hc.2.1).1,(own_cell R hc.2.2.1).1,(own_cell R hc.2.2.2.1).1,(own_cell R hc.2.2.2.2).1⟩,h.orow.frozen,?_⟩
 exact(h.has mo[j] (List.getElem_mem hj)).ints
theorem WS.put4 {w W:World} {gw go n co j:Nat} {u:Value} {e z b:Int} {r s:ByteArray} {y:Int} {vs:Value} {mo:List MO} {ms:List ML} {mr:List MR} (h:WS w W gw u e z b r s y (.slice (some ⟨go,0,none⟩) n co) vs mo ms mr) (hj:j<mo.length) (t:Int) :
  WS w (W.setCell ⟨go,j*5+4,none⟩ (.int .i64 t)) gw u e z b r s y (.slice (some ⟨go,0,none⟩) n co) vs (mo.set j (⟨mo[j].1.name,mo[j].1.has,mo[j].1.asked,mo[j].1.age,t⟩,mo[j].2)) ms mr/\KeepH W (W.setCell ⟨go,j*5+4,none⟩ (.int .i64 t)):=by
 have hc:=cellsO_at mo j hj
 refine WS.putC h hj _ _ (.inl ⟨rfl,rfl⟩) ?_ (grown_set _)
 rw[cellsO_put mo j _ hj]
 dsimp only
 rw[set_same hc.1,set_same hc.2.1,set_same hc.2.2.1,set_same hc.2.2.2.1]
 exact own_set (p:=j*5+4) h.row _
theorem WS.put23 {w W:World} {gw go n co j:Nat} {u:Value} {e z b:Int} {r s:ByteArray} {y:Int} {vs:Value} {mo:List MO} {ms:List ML} {mr:List MR} (h:WS w W gw u e z b r s y (.slice (some ⟨go,0,none⟩) n co) vs mo ms mr) (hj:j<mo.length) :
  WS w ((W.setCell ⟨go,j*5+2,none⟩ (.int .i64 0)).setCell ⟨go,j*5+3,none⟩ (.int .i64 0)) gw u e z b r s y (.slice (some ⟨go,0,none⟩) n co) vs (mo.set j (⟨mo[j].1.name,mo[j].1.has,0,0,mo[j].1.strikes⟩,mo[j].2)) ms mr/\KeepH W ((W.setCell ⟨go,j*5+2,none⟩ (.int .i64 0)).setCell ⟨go,j*5+3,none⟩ (.int .i64 0)):=by
 have hc:=cellsO_at mo j hj
 refine WS.putC h hj _ _ (.inl ⟨rfl,rfl⟩) ?_ (grown_more (grown_set _) _)
 rw[cellsO_put mo j _ hj]
 dsimp only
 have e4:(((cellsO mo).set (j*5+2) (.int .i64 0)).set (j*5+3) (.int .i64 0))[j*5+4]? = some (.int .i64 mo[j].1.strikes):=by rw[List.getElem?_set_ne (by omega),List.getElem?_set_ne (by omega)];exact hc.2.2.2.2
 rw[set_same hc.1,set_same hc.2.1,set_same e4]
 exact own_set (p:=j*5+3) (own_set (p:=j*5+2) h.row _) _
theorem WS.put123 {w W:World} {gw go n co j:Nat} {u:Value} {e z b:Int} {r s:ByteArray} {y:Int} {vs:Value} {mo:List MO} {ms:List ML} {mr:List MR} (h:WS w W gw u e z b r s y (.slice (some ⟨go,0,none⟩) n co) vs mo ms mr) (hj:j<mo.length) :
  WS w (((W.setCell ⟨go,j*5+1,none⟩ (.slice none 0 0)).setCell ⟨go,j*5+2,none⟩ (.int .i64 0)).setCell ⟨go,j*5+3,none⟩ (.int .i64 0)) gw u e z b r s y (.slice (some ⟨go,0,none⟩) n co) vs (mo.set j (⟨mo[j].1.name,[],0,0,mo[j].1.strikes⟩,.slice none 0 0)) ms mr/\KeepH W (((W.setCell ⟨go,j*5+1,none⟩ (.slice none 0 0)).setCell ⟨go,j*5+2,none⟩ (.int .i64 0)).setCell ⟨go,j*5+3,none⟩ (.int .i64 0)):=by
 have hc:=cellsO_at mo j hj
 refine WS.putC h hj _ _ (.inr ⟨rfl,rfl⟩) ?_ (grown_more (grown_more (grown_set _) _) _)
 rw[cellsO_put mo j _ hj]
 dsimp only
 have e4:((((cellsO mo).set (j*5+1) (.slice none 0 0)).set (j*5+2) (.int .i64 0)).set (j*5+3) (.int .i64 0))[j*5+4]? = some (.int .i64 mo[j].1.strikes):=by rw[List.getElem?_set_ne (by omega),List.getElem?_set_ne (by omega),List.getElem?_set_ne (by omega)];exact hc.2.2.2.2
 rw[set_same hc.1,set_same e4]
 exact own_set (p:=j*5+3) (own_set (p:=j*5+2) (own_set (p:=j*5+1) h.row _) _) _
theorem strike_any (w W:World) (gw:Nat) (u:Value) (e z b:Int) (r s:ByteArray) (y:Int) (go n co j:Nat) (vs:Value) (mo:List MO) (ms:List ML) (mr:List MR) (hw:WS w W gw u e z b r s y (.slice (some ⟨go,0,none⟩) n co) vs mo ms mr) (hj:j<mo.length) (hs0:0<=mo[j].1.strikes) (hs1:mo[j].1.strikes<=3) :
  Calls Tryz.prog 158 #[.pointer (some ⟨go,j*5,none⟩)] W fun q w'=>q=.returned (.tuple #[])/\∃ mo',WS w w' gw u e z b r s y (.slice (some ⟨go,0,none⟩) n co) vs mo' ms mr/\Pe.oths mo'=(Pe.oths mo).set j (strikeO mo[j].1)/\KeepH W w':=by
 obtain⟨⟨_,_,_,_,d4⟩,ff,ax,cx,hxv,_⟩:=hw.five hj
 obtain⟨p1,p2⟩:=hw.put4 hj (mo[j].1.strikes+1)
 have W1S:=hideK p1
 have K1:=hideK p2
 clear p1 p2
 have f4:=ff (j*5+4)
 have HMO:Hid (Pe.oths (mo.set j (⟨mo[j].1.name,mo[j].1.has,mo[j].1.asked,mo[j].1.age,mo[j].1.strikes+1⟩,mo[j].2))=(Pe.oths mo).set j ⟨mo[j].1.name,mo[j].1.has,mo[j].1.asked,mo[j].1.age,mo[j].1.strikes+1⟩):=oths_set _ _ _
 have HJ:Hid (∃ hj':j<(mo.set j (⟨mo[j].1.name,mo[j].1.has,mo[j].1.asked,mo[j].1.age,mo[j].1.strikes+1⟩,mo[j].2)).length,(mo.set j (⟨mo[j].1.name,mo[j].1.has,mo[j].1.asked,mo[j].1.age,mo[j].1.strikes+1⟩,mo[j].2))[j]=(⟨mo[j].1.name,mo[j].1.has,mo[j].1.asked,mo[j].1.age,mo[j].1.strikes+1⟩,mo[j].2)):=⟨by rw[List.length_set];exact hj,by simp⟩
 have HST:Hid (strikeO mo[j].1=if mo[j].1.strikes+1=3 then ⟨mo[j].1.name,[],0,0,mo[j].1.strikes+1⟩ else ⟨mo[j].1.name,mo[j].1.has,mo[j].1.asked,mo[j].1.age,mo[j].1.strikes+1⟩):=rfl
 generalize strikeO mo[j].1=SO at HST ⊢
 clear hw hxv
 generalize hm1:mo.set j (⟨mo[j].1.name,mo[j].1.has,mo[j].1.asked,mo[j].1.age,mo[j].1.strikes+1⟩,mo[j].2)=mo1 at W1S HMO HJ
 clear hm1
 generalize Pe.oths mo=OO at HMO ⊢
 generalize mo[j].1.name=nm at *
 generalize mo[j].1.has=hl at *
 generalize mo[j].1.asked=qa at *
 generalize mo[j].1.age=ga at *
 generalize mo[j].1.strikes=st at *
 generalize mo[j].2=v2 at *
 have hwr:IntKind.i64.wrap (st+1)=st+1:=by rw[IntKind.wrap_i64];omega
 go_enter Tryz.func158,Tryz.ntmps158
 go_upto_region 1 with fail
 generalize W.setCell ⟨go,j*5+4,none⟩ (.int .i64 (st+1))=W1 at W1S K1 ⊢
 clear d4 f4 ff
 obtain⟨hj1,e1⟩:=HJ.out
 obtain⟨⟨c0,c1,c2,c3,c4⟩,ff,ax,cx,hxv,_⟩:=W1S.out.five hj1
 rw[hxv]at c1
 rw[e1]at c0 c1 c2 c3 c4
 dsimp only at c0 c1 c2 c3 c4
 clear hxv
 have HBA:=hideK (fun W=>banned_any nm ax hl.length cx qa ga (st+1) W)
 generalize hl.length=k at c1 HBA
 by_cases ht:st+1=3
 ·have ht':(st+1==3)=true:=beq_iff_eq.2 ht
  rw[if_pos ht]at HST
  rw[ht']at HBA
  clear ht ht'
  go_wp2_with fail
  refine(HBA.out _).mono ?_
  rintro q w2 ⟨rfl,hb⟩
  have W2S:=hideK (W1S.out.call hb)
  have K2:=hideK (K1.out.trans (KeepH.below hb))
  clear hb W1S K1 c0 c1 c2 c3 c4 ff HBA
  obtain⟨⟨c0,c1,c2,c3,c4⟩,ff,ax2,cx2,hxv,_⟩:=W2S.out.five hj1
  rw[hxv]at c1
  rw[e1]at c0 c1 c2 c3 c4
  dsimp only at c0 c1 c2 c3 c4
  clear hxv
  obtain⟨p1,p2⟩:=W2S.out.put123 hj1
  have HF:Hid (∃ mo',WS w (((w2.setCell ⟨go,j*5+1,none⟩ (.slice none 0 0)).setCell ⟨go,j*5+2,none⟩ (.int .i64 0)).setCell ⟨go,j*5+3,none⟩ (.int .i64 0)) gw u e z b r s y (.slice (some ⟨go,0,none⟩) n co) vs mo' ms mr/\Pe.oths mo'=OO.set j SO/\KeepH W (((w2.setCell ⟨go,j*5+1,none⟩ (.slice none 0 0)).setCell ⟨go,j*5+2,none⟩ (.int .i64 0)).setCell ⟨go,j*5+3,none⟩ (.int .i64 0))):=⟨_,p1,by rw[oths_set,HMO.out,List.set_set,HST.out,e1],K2.out.trans p2⟩
  clear p1 p2 W2S K2 HMO HST HJ e1
  have c2':(w2.setCell ⟨go,j*5+1,none⟩ (.slice none 0 0)).cell? ⟨go,j*5+2,none⟩=some (.int .i64 qa):=by rw[World.cell?_setCell_other _ _ _ _ (by simp)];exact c2
  have c3':(w2.setCell ⟨go,j*5+1,none⟩ (.slice none 0 0)).cell? ⟨go,j*5+3,none⟩=some (.int .i64 ga):=by rw[World.cell?_setCell_other _ _ _ _ (by simp)];exact c3
  have HRE:=hideK (release_any go (j*5) qa ga (w2.setCell ⟨go,j*5+1,none⟩ (.slice none 0 0)) c2' c3' (fun i=>by simpa using ff i))
  have f1:=ff (j*5+1)
  go_upto_region 3 with fail
  generalize w2.setCell ⟨go,j*5+1,none⟩ (.slice none 0 0)=W3 at HRE HF c2' c3' ⊢
  clear c0 c1 c2 c3 c4 f1 ff
  go_wp2_with fail
  refine HRE.out.mono ?_
  rintro q' w4 ⟨rfl,rfl⟩
  clear HRE
  go_wp2_with fail
  refine bodyPost_end (v:=.tuple #[]) (by simp[results,Tryz.results158,go_sem]) rfl ⟨rfl,?_⟩
  exact HF.out
 ·have ht':(st+1==3)=false:=by simp[ht]
  rw[if_neg ht]at HST
  rw[ht']at HBA
  clear ht ht'
  have HF:Hid (∀ w2,Below W1.heap.size W1 w2->∃ mo',WS w w2 gw u e z b r s y (.slice (some ⟨go,0,none⟩) n co) vs mo' ms mr/\Pe.oths mo'=OO.set j SO/\KeepH W w2):=fun w2 hb=>⟨_,W1S.out.call hb,by rw[HMO.out,HST.out],K1.out.trans (KeepH.below hb)⟩
  clear W1S K1 HMO HST HJ e1
  go_wp2_with fail
  refine(HBA.out _).mono ?_
  rintro q w2 ⟨rfl,hb⟩
  have HF2:=hideK (HF.out w2 hb)
  clear hb HF HBA
  go_wp2_with fail
  refine bodyPost_end (v:=.tuple #[]) (by simp[results,Tryz.results158,go_sem]) rfl ⟨rfl,?_⟩
  exact HF2.out
end Go.Proofs.YtpddanmnlkcdpaaGreatDoor.Tk


namespace Go.Proofs.YtpddanmnlkcdpaaGreatDoor.Tk
open Go.RowKit
open Kp
open Pe
open Pl
open Hr
open In (Ints OwnI)
open Ls (lowL blk_alloc)
def sayV (k i:Int) (t:ByteArray) (v:Value):Value:=.agg #[.int .i64 k,.int .i64 i,.string t,v]
def sayO (k i:Int) (t:ByteArray) (v:Value):Obj:=.cells #[.int .i64 k,.int .i64 i,.string t,v] 51
theorem cells4 {W:World} {g:Nat} {x0 x1 x2 x3:Value} {T:TypeId} (h:W.heap[g]? = some (.cells #[x0,x1,x2,x3] T (0,0))):W.cell? ⟨g,0,none⟩=some x0/\W.cell? ⟨g,1,none⟩=some x1/\W.cell? ⟨g,2,none⟩=some x2/\W.cell? ⟨g,3,none⟩=some x3 :=
 ⟨cell_of_row W g 0 _ _ _ h,cell_of_row W g 1 _ _ _ h,cell_of_row W g 2 _ _ _ h,cell_of_row W g 3 _ _ _ h⟩
theorem KeepH.say {W W':World} {g:Nat} {k i:Int} {t:ByteArray} {v:Value} (h:KeepH W W') (hg:W.heap[g]? = some (sayO k i t v)):W'.heap[g]? = some (sayO k i t v):=h.2 g _ hg (fun cs T e=>by
 unfold sayO at e
 cases e
 exact⟨by decide,by decide,by decide,by decide⟩)
theorem ints_lt {l:List Int} {c:Int} (h:RisesTo l c l.length):RisI l:=fun i j _ hj hij=>rises_fresh h j i hj hij
def SetPost (w W:World) (gw:Nat) (u:Value) (e z b:Int) (r s:ByteArray) (y:Int) (vo vs:Value) (mo:List MO) (ms:List ML) (mr:List MR) (j:Nat) (x:Oth) (w':World):Prop :=
 ∃ mo',WS w w' gw u e z b r s y vo vs mo' ms mr/\Pe.oths mo'=(Pe.oths mo).set j x/\KeepH W w'
theorem oths_at {mN mo:List MO} {j:Nat} {x:Oth} (h:Pe.oths mN=(Pe.oths mo).set j x) (hj:j<mo.length):∃ hN:j<mN.length,mN[j].1=x:=by
 have hl:=congrArg List.length h
 rw[oths_length,List.length_set,oths_length]at hl
 refine⟨by omega,?_⟩
 rw[<-oths_get mN j (by omega)]
 simp only[h]
 rw[List.getElem_set_self]
theorem WS.cell1 {w W W':World} {gw go n co j:Nat} {u:Value} {e z b:Int} {r s:ByteArray} {y:Int} {vs:Value} {mo:List MO} {ms:List ML} {mr:List MR} (h:WS w W gw u e z b r s y (.slice (some ⟨go,0,none⟩) n co) vs mo ms mr) (hj:j<mo.length) (hg:W.grownBy W' mo[j].2.ownBlock):W'.cell? ⟨go,j*5+1,none⟩=some mo[j].2/\W'.frozen? ⟨go,j*5+1,none⟩=false:=by
 have R0:=h.row
 obtain⟨cur,hb⟩:=own_blk R0
 have R2:W'.ownsRow w.heap.size 86 5 (.slice (some ⟨go,0,none⟩) n co) n (cellsO mo):=own_stay R0 fun g hgg o ho=>by
  cases hgg
  refine(hg.block go (lt_rowK ho) fun e'=>?_).trans ho
  obtain⟨cs,hc⟩:=own_ty (h.has mo[j] (List.getElem_mem hj)) e'.symm
  exact ty_ne hb hc (by decide) rfl
 exact own_cell R2 (cellsO_at mo j hj).2.1
theorem oths_same {mo:List MO} {j:Nat} (hj:j<mo.length):(Pe.oths mo).set j mo[j].1=Pe.oths mo:=by
 unfold Pe.oths
 apply List.ext_getElem?
 intro t
 rw[List.getElem?_set]
 split
 ·rename_i e
  subst e
  simp[hj]
 ·rfl
theorem settle3_any (w W:World) (gw:Nat) (u:Value) (e z b:Int) (r s:ByteArray) (y:Int) (go n co j:Nat) (vs:Value) (mo:List MO) (ms:List ML) (mr:List MR) (hw:WS w W gw u e z b r s y (.slice (some ⟨go,0,none⟩) n co) vs mo ms mr) (hj:j<mo.length) (i:Int) (t:ByteArray) (ap:Option Addr) (np cp:Nat) (hi:0<=i/\i<=1048576) :
  Calls Tryz.prog 157 #[.pointer (some ⟨go,j*5,none⟩),sayV 3 i t (.slice ap np cp)] W fun q w'=>q=.returned (.bool (decide (mo[j].1.asked=i+1)))/\SetPost w W gw u e z b r s y (.slice (some ⟨go,0,none⟩) n co) vs mo ms mr j (dropO mo[j].1 i) w':=by
 have hmx:=mixedK
 have hz:=lt_rowK hw.gwb
 have W1S:=hideK (hw.call ((Below.refl _ _).alloc (Nat.le_refl _) (sayO 3 i t (.slice ap np cp))))
 have K1:=hideK (KeepH.below ((Below.refl W.heap.size W).alloc (Nat.le_refl _) (sayO 3 i t (.slice ap np cp))))
 have XB:=hideK (heap_alloc_new W (sayO 3 i t (.slice ap np cp)))
 have HSAME:=hideK (oths_same hj)
 have HDR:Hid (∀ o:Oth,dropO o i=if o.asked=i+1 then ⟨o.name,o.has,0,0,o.strikes⟩ else o):=fun _=>rfl
 have hwr:IntKind.i64.wrap (i+1)=i+1:=by rw[IntKind.wrap_i64];omega
 clear hw
 unfold sayV
 unfold sayO at XB W1S K1
 go_enter Tryz.func157,Tryz.ntmps157
 go_upto_region 1 with fail
 generalize W.alloc (.cells #[.int .i64 3,.int .i64 i,.string t,.slice ap np cp] 51)=W1 at W1S K1 XB ⊢
 generalize W.heap.size=gm at XB ⊢
 obtain⟨⟨c0,c1,c2,c3,c4⟩,ff,ax,cx,hxv,_,hix⟩:=W1S.out.five hj
 rw[hxv]at c1
 have g2:=fun d os=>cell_regrown c2 d os
 obtain⟨x0,x1,x2,x3⟩:=cells4 XB.out
 have gx1:=fun d os=>cell_regrown x1 d os
 clear hix
 refine wp_region_quiet_below (by assumption) (by kernel_rfl) ?_
 repeat (go_big_quiet_step (fail))
 refine wpQuiet_nil ?_
 intro _ hw'
 obtain⟨⟨dq,osq⟩,hw''⟩:=hw'
 subst hw''
 have W2S:=hideK (W1S.out.call (below_regrown W1 dq osq))
 have K2:=hideK (K1.out.trans (KeepH.below (below_regrown W1 dq osq)))
 have X2:=hideK ((below_regrown W1 dq osq).block gm (lt_rowK XB.out))
 rw[XB.out]at X2
 generalize Go.Sort.grow (redrawn W1 dq) osq=W2 at W2S K2 X2 ⊢
 clear g2 gx1 c0 c1 c2 c3 c4 ff x0 x1 x2 x3 W1S K1 XB
 obtain⟨x0,x1,x2,x3⟩:=cells4 X2.out
 clear hxv
 by_cases hq:mo[j].1.asked=i+1
 ·have hqb:(mo[j].1.asked==i+1)=true:=beq_iff_eq.2 hq
  have hqd:decide (mo[j].1.asked=i+1)=true:=decide_eq_true hq
  obtain⟨⟨c0,c1,c2,c3,c4⟩,ff,_⟩:=W2S.out.five hj
  obtain⟨p1,p2⟩:=W2S.out.put23 hj
  have HRE:=hideK (release_any go (j*5) mo[j].1.asked mo[j].1.age W2 c2 c3 ff)
  have HF:Hid (SetPost w W gw u e z b r s y (.slice (some ⟨go,0,none⟩) n co) vs mo ms mr j (dropO mo[j].1 i) ((W2.setCell ⟨go,j*5+2,none⟩ (.int .i64 0)).setCell ⟨go,j*5+3,none⟩ (.int .i64 0))):=⟨_,p1,by rw[oths_set,HDR.out,if_pos hq],K2.out.trans p2⟩
  have HQD:=hideK hqd
  rw[hqb]
  clear p1 p2 W2S K2 HDR HSAME c0 c1 c2 c3 c4 ff hq hqb hqd
  go_wp2_with fail
  refine HRE.out.mono ?_
  rintro q' w4 ⟨rfl,hw4⟩
  rw[<-hw4]at HF
  clear HRE hw4
  go_wp2_with fail
  go_ret
  exact⟨by rw[HQD.out];rfl,HF.out⟩
 ·have hqb:(mo[j].1.asked==i+1)=false:=by simp[hq]
  have hqd:decide (mo[j].1.asked=i+1)=false:=decide_eq_false hq
  have HF:Hid (SetPost w W gw u e z b r s y (.slice (some ⟨go,0,none⟩) n co) vs mo ms mr j (dropO mo[j].1 i) W2):=⟨_,W2S.out,by rw[HDR.out,if_neg hq,HSAME.out],K2.out⟩
  have HQD:=hideK hqd
  rw[hqb]
  clear W2S K2 HDR HSAME hq hqb hqd
  go_wp2_with fail
  go_ret
  exact⟨by rw[HQD.out];rfl,HF.out⟩
theorem settle4_any (w W:World) (gw:Nat) (u:Value) (e z b:Int) (r s:ByteArray) (y:Int) (go n co j:Nat) (vs:Value) (mo:List MO) (ms:List ML) (mr:List MR) (hw:WS w W gw u e z b r s y (.slice (some ⟨go,0,none⟩) n co) vs mo ms mr) (hj:j<mo.length) (i:Int) (t:ByteArray) (ap:Option Addr) (np cp:Nat) (hi:0<=i/\i<=1048576) {c:Int} (hri:RisesTo mo[j].1.has c mo[j].1.has.length) (hsm:mo[j].1.has.length<=1048576) :
  Calls Tryz.prog 157 #[.pointer (some ⟨go,j*5,none⟩),sayV 4 i t (.slice ap np cp)] W fun q w'=>q=.returned (.bool (decide (mo[j].1.asked=i+1)))/\SetPost w W gw u e z b r s y (.slice (some ⟨go,0,none⟩) n co) vs mo ms mr j (noO mo[j].1 i) w':=by
 have hmx:=mixedK
 have hz:=lt_rowK hw.gwb
 have W1S:=hideK (hw.call ((Below.refl _ _).alloc (Nat.le_refl _) (sayO 4 i t (.slice ap np cp))))
 have K1:=hideK (KeepH.below ((Below.refl W.heap.size W).alloc (Nat.le_refl _) (sayO 4 i t (.slice ap np cp))))
 have XB:=hideK (heap_alloc_new W (sayO 4 i t (.slice ap np cp)))
 have HSAME:=hideK (oths_same hj)
 have HDR:Hid (∀ o:Oth,dropO o i=if o.asked=i+1 then ⟨o.name,o.has,0,0,o.strikes⟩ else o):=fun _=>rfl
 have hwr:IntKind.i64.wrap (i+1)=i+1:=by rw[IntKind.wrap_i64];omega
 clear hw
 unfold sayV
 unfold sayO at XB W1S K1
 go_enter Tryz.func157,Tryz.ntmps157
 go_upto_region 1 with fail
 generalize W.alloc (.cells #[.int .i64 4,.int .i64 i,.string t,.slice ap np cp] 51)=W1 at W1S K1 XB ⊢
 generalize W.heap.size=gm at XB ⊢
 obtain⟨⟨c0,c1,c2,c3,c4⟩,ff,ax,cx,hxv,_,hix⟩:=W1S.out.five hj
 rw[hxv]at c1
 have g2:=fun d os=>cell_regrown c2 d os
 obtain⟨x0,x1,x2,x3⟩:=cells4 XB.out
 have gx1:=fun d os=>cell_regrown x1 d os
 have HIX:=hideK hix
 have HV2:=hideK hxv
 have HRI:=hideK (ints_lt hri)
 have HSM:=hideK hsm
 clear hri hsm
 clear hix
 refine wp_region_quiet_below (by assumption) (by kernel_rfl) ?_
 repeat (go_big_quiet_step (fail))
 refine wpQuiet_nil ?_
 intro _ hw'
 obtain⟨⟨dq,osq⟩,hw''⟩:=hw'
 subst hw''
 have W2S:=hideK (W1S.out.call (below_regrown W1 dq osq))
 have K2:=hideK (K1.out.trans (KeepH.below (below_regrown W1 dq osq)))
 have X2:=hideK ((below_regrown W1 dq osq).block gm (lt_rowK XB.out))
 rw[XB.out]at X2
 have IX2:=hideK ((HIX.out.below (below_regrown W1 dq osq)).mono (below_regrown W1 dq osq).size)
 generalize Go.Sort.grow (redrawn W1 dq) osq=W2 at W2S K2 X2 IX2 ⊢
 clear g2 gx1 c0 c1 c2 c3 c4 ff x0 x1 x2 x3 W1S K1 XB HIX
 obtain⟨x0,x1,x2,x3⟩:=cells4 X2.out
 have HSR:=hideK (fun W (h:Ints W W.heap.size ax mo[j].1.has)=>search_any ax mo[j].1.has.length cx mo[j].1.has i W h rfl HSM.out HRI.out)
 obtain⟨⟨c0,c1,c2,c3,c4⟩,ff,_⟩:=W2S.out.five hj
 rw[HV2.out]at c1
 have g1:=fun d os=>cell_regrown c1 d os
 have gx1:=fun d os=>cell_regrown x1 d os
 have HSR2:Hid (∀ W,Below W2.heap.size W2 W->Calls Tryz.prog 155 #[.slice ax mo[j].1.has.length cx,.int .i64 i] W fun e w'=>e=.returned (.tuple #[.int .i64 ((posI mo[j].1.has i:Nat):Int),.bool (decide (i∈mo[j].1.has))])/\Below W.heap.size W w'):=fun W hW=>(HSR.out W ((IX2.out.below hW).mono hW.size)).mono fun e w' h=>⟨h.1,by rw[h.2];exact Below.refl _ _⟩
 have HPL:Hid (i∈mo[j].1.has->posI mo[j].1.has i<mo[j].1.has.length):=fun hm=>(posI_mem HRI.out hm).1
 have HNO:Hid (noO mo[j].1 i=if mo[j].1.asked=i+1 then ⟨mo[j].1.name,lessI mo[j].1.has i,0,0,mo[j].1.strikes⟩ else ⟨mo[j].1.name,lessI mo[j].1.has i,mo[j].1.asked,mo[j].1.age,mo[j].1.strikes⟩):=rfl
 have HLS:Hid (lessI mo[j].1.has i=if i∈mo[j].1.has then mo[j].1.has.eraseIdx (posI mo[j].1.has i) else mo[j].1.has):=rfl
 clear HSR
 have hpr:posI mo[j].1.has i<=1048576:=Nat.le_trans (posI_le _ _) HSM.out
 generalize posI mo[j].1.has i=P at HSR2 HPL HLS hpr
 have hwp:IntKind.i64.wrap ((P:Int)+1)=(P:Int)+1:=by rw[IntKind.wrap_i64];omega
 generalize hln:mo[j].1.has.length=hl at g1 HSR2 HPL c1 HV2
 have HLN:=hideK hln
 clear hln
 go_upto_region 5 with fail
 cases hm:decide (i∈mo[j].1.has) with
 |true =>
  have hm1:=of_decide_eq_true hm
  rw[if_pos hm1]at HLS
  rw[hm]at HSR2
  have hpl:=HPL.out hm1
  clear hm hm1 c0 c2 c3 c4
  refine wp_region_quiet_below (by assumption) (by kernel_rfl) ?_
  repeat (go_big_quiet_step ((go_at_call 155;exact Calls.regrown_of (HSR2.out _ (below_regrown _ _ _)))))
  refine wpQuiet_nil ?_
  intro _ hw'
  obtain⟨⟨dq2,osq2⟩,hw''⟩:=hw'
  subst hw''
  have W3S:=hideK (W2S.out.call (below_regrown W2 dq2 osq2))
  have K3:=hideK (K2.out.trans (KeepH.below (below_regrown W2 dq2 osq2)))
  generalize Go.Sort.grow (redrawn W2 dq2) osq2=W3 at W3S K3 ⊢
  clear g1 gx1 c1 ff x0 x1 x2 x3 W2S K2 X2 IX2 HSR2
  obtain⟨⟨c0,c1,c2,c3,c4⟩,ff,_⟩:=W3S.out.five hj
  rw[HV2.out]at c1
  have f1:=ff (j*5+1)
  have HDL:=hideK (delete_any w.heap.size mo[j].2 mo[j].1.has P W3 (W3S.out.has mo[j] (List.getElem_mem hj)) (by rw[HLN.out];exact hpl) HSM.out)
  have HPH:=hideK (fun W4 l v h1 h2 h3=>W3S.out.putH hj (W1:=W3) (W2:=W4) l v (Below.refl _ _) h1 h2 h3)
  have HC4:=hideK (fun W4 (hg:W3.grownBy W4 mo[j].2.ownBlock)=>W3S.out.cell1 hj hg)
  rw[HV2.out]at HDL HPH HC4
  clear c0 c2 c3 c4 ff
  go_wp2_with fail
  refine HDL.out.mono ?_
  rintro q4 w4 ⟨v4,rfl,ho4,hg4,hbk4⟩
  obtain⟨p1,p2⟩:=HPH.out w4 _ v4 hg4 ho4 (.inl hbk4)
  obtain⟨k1,k2⟩:=HC4.out w4 hg4
  have HN:Hid (∃ mN,WS w (w4.setCell ⟨go,j*5+1,none⟩ v4) gw u e z b r s y (.slice (some ⟨go,0,none⟩) n co) vs mN ms mr/\Pe.oths mN=(Pe.oths mo).set j ⟨mo[j].1.name,lessI mo[j].1.has i,mo[j].1.asked,mo[j].1.age,mo[j].1.strikes⟩/\KeepH W (w4.setCell ⟨go,j*5+1,none⟩ v4)):=⟨_,p1,by rw[oths_set,HLS.out],K3.out.trans p2⟩
  obtain⟨g4,n4,cc4,hv4⟩:∃ a n c,v4=.slice a n c:=by
   obtain⟨a,c,h,_⟩:=ho4.ints
   exact⟨_,_,_,h⟩
  subst hv4
  clear p1 p2 ho4 hg4 hbk4 HDL HPH HC4 W3S K3 HLS c1 f1 HSM
  go_upto_region 8 with fail
  generalize w4.setCell ⟨go,j*5+1,none⟩ (.slice g4 n4 cc4)=W4 at HN ⊢
  clear k1 k2
  by_cases hq:mo[j].1.asked=i+1
  ·have hqb:(mo[j].1.asked==i+1)=true:=beq_iff_eq.2 hq
   have hqd:decide (mo[j].1.asked=i+1)=true:=decide_eq_true hq
   obtain⟨mN,hN1,hN2,hN3⟩:=HN.out
   obtain⟨hjN,exN⟩:=oths_at hN2 hj
   obtain⟨⟨_,_,c2,c3,_⟩,ff,_⟩:=hN1.five hjN
   obtain⟨p1,p2⟩:=hN1.put23 hjN
   have HRE:=hideK (release_any go (j*5) mN[j].1.asked mN[j].1.age W4 c2 c3 ff)
   have HF:Hid (SetPost w W gw u e z b r s y (.slice (some ⟨go,0,none⟩) n co) vs mo ms mr j (noO mo[j].1 i) ((W4.setCell ⟨go,j*5+2,none⟩ (.int .i64 0)).setCell ⟨go,j*5+3,none⟩ (.int .i64 0))):=⟨_,p1,by rw[oths_set,hN2,List.set_set,exN,HNO.out,if_pos hq],hN3.trans p2⟩
   have HQD:=hideK hqd
   rw[hqb]
   clear p1 p2 c2 c3 ff hN1 hN2 hN3 exN HN HNO HDR HSAME hq hqb hqd
   go_wp2_with fail
   refine HRE.out.mono ?_
   rintro q' w5 ⟨rfl,hw5⟩
   rw[<-hw5]at HF
   clear HRE hw5
   go_wp2_with fail
   go_ret
   exact⟨by rw[HQD.out];rfl,HF.out⟩
  ·have hqb:(mo[j].1.asked==i+1)=false:=by simp[hq]
   have hqd:decide (mo[j].1.asked=i+1)=false:=decide_eq_false hq
   have HF:Hid (SetPost w W gw u e z b r s y (.slice (some ⟨go,0,none⟩) n co) vs mo ms mr j (noO mo[j].1 i) W4):=by
    obtain⟨mN,hN1,hN2,hN3⟩:=HN.out
    exact⟨mN,hN1,by rw[hN2,HNO.out,if_neg hq],hN3⟩
   have HQD:=hideK hqd
   rw[hqb]
   clear HN HNO HDR HSAME hq hqb hqd
   go_wp2_with fail
   go_ret
   exact⟨by rw[HQD.out];rfl,HF.out⟩
 |false =>
  have hm1:=of_decide_eq_false hm
  rw[if_neg hm1]at HLS
  rw[hm]at HSR2
  clear hm hm1 c0 c2 c3 c4
  refine wp_region_quiet_below (by assumption) (by kernel_rfl) ?_
  repeat (go_big_quiet_step ((go_at_call 155;exact Calls.regrown_of (HSR2.out _ (below_regrown _ _ _)))))
  refine wpQuiet_nil ?_
  intro _ hw'
  obtain⟨⟨dq2,osq2⟩,hw''⟩:=hw'
  subst hw''
  have W3S:=hideK (W2S.out.call (below_regrown W2 dq2 osq2))
  have K3:=hideK (K2.out.trans (KeepH.below (below_regrown W2 dq2 osq2)))
  generalize Go.Sort.grow (redrawn W2 dq2) osq2=W3 at W3S K3 ⊢
  clear g1 gx1 c1 ff x0 x1 x2 x3 W2S K2 X2 IX2 HSR2
  have HN:Hid (∃ mN,WS w W3 gw u e z b r s y (.slice (some ⟨go,0,none⟩) n co) vs mN ms mr/\Pe.oths mN=(Pe.oths mo).set j ⟨mo[j].1.name,lessI mo[j].1.has i,mo[j].1.asked,mo[j].1.age,mo[j].1.strikes⟩/\KeepH W W3):=⟨_,W3S.out,by rw[HLS.out,HSAME.out],K3.out⟩
  generalize W3=W4 at HN ⊢
  clear W3S K3 HLS HSM
  by_cases hq:mo[j].1.asked=i+1
  ·have hqb:(mo[j].1.asked==i+1)=true:=beq_iff_eq.2 hq
   have hqd:decide (mo[j].1.asked=i+1)=true:=decide_eq_true hq
   obtain⟨mN,hN1,hN2,hN3⟩:=HN.out
   obtain⟨hjN,exN⟩:=oths_at hN2 hj
   obtain⟨⟨_,_,c2,c3,_⟩,ff,_⟩:=hN1.five hjN
   obtain⟨p1,p2⟩:=hN1.put23 hjN
   have HRE:=hideK (release_any go (j*5) mN[j].1.asked mN[j].1.age W4 c2 c3 ff)
   have HF:Hid (SetPost w W gw u e z b r s y (.slice (some ⟨go,0,none⟩) n co) vs mo ms mr j (noO mo[j].1 i) ((W4.setCell ⟨go,j*5+2,none⟩ (.int .i64 0)).setCell ⟨go,j*5+3,none⟩ (.int .i64 0))):=⟨_,p1,by rw[oths_set,hN2,List.set_set,exN,HNO.out,if_pos hq],hN3.trans p2⟩
   have HQD:=hideK hqd
   rw[hqb]
   clear p1 p2 c2 c3 ff hN1 hN2 hN3 exN HN HNO HDR HSAME hq hqb hqd
   go_wp2_with fail
   refine HRE.out.mono ?_
   rintro q' w5 ⟨rfl,hw5⟩
   rw[<-hw5]at HF
   clear HRE hw5
   go_wp2_with fail
   go_ret
   exact⟨by rw[HQD.out];rfl,HF.out⟩
  ·have hqb:(mo[j].1.asked==i+1)=false:=by simp[hq]
   have hqd:decide (mo[j].1.asked=i+1)=false:=decide_eq_false hq
   have HF:Hid (SetPost w W gw u e z b r s y (.slice (some ⟨go,0,none⟩) n co) vs mo ms mr j (noO mo[j].1 i) W4):=by
    obtain⟨mN,hN1,hN2,hN3⟩:=HN.out
    exact⟨mN,hN1,by rw[hN2,HNO.out,if_neg hq],hN3⟩
   have HQD:=hideK hqd
   rw[hqb]
   clear HN HNO HDR HSAME hq hqb hqd
   go_wp2_with fail
   go_ret
   exact⟨by rw[HQD.out];rfl,HF.out⟩
end Go.Proofs.YtpddanmnlkcdpaaGreatDoor.Tk

