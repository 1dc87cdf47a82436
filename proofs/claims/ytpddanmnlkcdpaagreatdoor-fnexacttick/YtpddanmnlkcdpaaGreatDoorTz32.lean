/- Texts put together: KpPlain, KpPath, PeSz, PmInsO. -/
import Derived.Test.YtpddanmnlkcdpaaGreatDoorTz26
import Derived.Test.YtpddanmnlkcdpaaGreatDoorTz18
import Derived.Test.YtpddanmnlkcdpaaGreatDoorTz31
import Derived.Test.YtpddanmnlkcdpaaGreatDoorTz12
import Derived.Test.YtpddanmnlkcdpaaGreatDoorTz22
import Derived.Lib.AppendZerosOnto
import Derived.Lib.Overlaps
import Derived.Laws.Externs
import Derived.Laws.NewBlocks
import Derived.Laws.OwnMore
import Derived.Shelf.RegionOpenPlain
set_option maxRecDepth 100000
set_option maxHeartbeats 8000000
/- What is kept: records and logs in plain words. -/
namespace Go.Proofs.YtpddanmnlkcdpaaGreatDoor.Kp
open Go.RowKit
open Gn (rd rt run numR run_place rd_place)
theorem run_more (s:ByteArray):∀ f k p u,(run s f k p u).2.2=0->p<(run s f k p u).2.1:=by
 intro f
 induction f with
 |zero=>intro k p u h;exact absurd h (by rw[run];decide)
 |succ f ih =>
  intro k p u
  rw[run]
  split
  ·intro h;exact absurd h (by decide)
  ·split
   ·intro h;exact absurd h (by decide)
   ·split
    ·split
     ·intro h;exact absurd h (by decide)
     ·intro _;exact Nat.lt_succ_self _
    ·intro h
     have:=ih _ _ _ h
     omega
theorem rd_more (s:ByteArray) (a:Int) (h:(rd s a).2.2=0):a.toNat<(rd s a).2.1/\(rd s a).2.1<=s.size/\s.size<=8000:=by
 have h1:=rd_place s a h
 refine⟨?_,h1.2,h1.1⟩
 unfold rd at h ⊢
 split at h
 ·exact absurd h (by decide)
 ·split at h
  ·exact absurd h (by decide)
  ·rename_i h1 h2
   rw[if_neg h1,if_neg h2]
   exact run_more s 10 0 a.toNat 0 h
theorem rt_more (s:ByteArray) (a:Int) (h:(rt s a).2.2=0):a.toNat<(rt s a).2.1/\(rt s a).2.1<=s.size/\s.size<=8000/\(rt s a).1.size<=8000:=by
 unfold rt at h ⊢
 split at h
 ·rename_i h1
  exact absurd h h1
 ·rename_i h1
  have h1':(rd s a).2.2=0:=Decidable.not_not.1 h1
  have hm:=rd_more s a h1'
  split at h
  ·exact absurd h (by decide)
  ·rename_i h2
   split at h
   ·exact absurd h (by decide)
   ·rename_i h3
    rw[if_neg h1,if_neg h2,if_neg h3]
    refine⟨?_,?_,hm.2.2,?_⟩
    ·show a.toNat<(rd s a).2.1+(rd s a).1.toNat
     omega
    ·show (rd s a).2.1+(rd s a).1.toNat<=s.size
     omega
    ·show (s.extract _ _).size<=8000
     rw[ByteArray.size_extract]
     omega
abbrev Rec:=Int × ByteArray × List ByteArray
def pathR (s:ByteArray):Nat->Nat->List ByteArray->Option (List ByteArray × Nat)
 |0,e,l=>some (l,e)
 |n+1,e,l=>if (rt s e).2.2=0 then pathR s n (rt s e).2.1 (l++[(rt s e).1]) else none
theorem pathR_yes {s:ByteArray} {n e:Nat} {l:List ByteArray} (h:(rt s e).2.2=0):pathR s (n+1) e l=pathR s n (rt s e).2.1 (l++[(rt s e).1]):=by
 rw[pathR,if_pos h]
theorem pathR_no {s:ByteArray} {n e:Nat} {l:List ByteArray} (h:¬(rt s e).2.2=0):pathR s (n+1) e l=none:=by
 rw[pathR,if_neg h]
theorem pathR_facts {s:ByteArray}:∀ {n e:Nat} {l:List ByteArray} {q:List ByteArray × Nat},pathR s n e l=some q->q.1.length=l.length+n/\e<=q.2
 |0,e,l,q,h=>by
  rw[pathR]at h
  cases h
  exact⟨rfl,Nat.le_refl _⟩
 |n+1,e,l,q,h=>by
  by_cases hc:(rt s e).2.2=0
  ·rw[pathR_yes hc]at h
   have h1:=pathR_facts h
   have h2:=(rt_more s e hc).1
   rw[List.length_append]at h1
   simp at h1 h2
   omega
  ·rw[pathR_no hc]at h
   cases h
def innerOk (s:ByteArray):Prop:=(rd s 0).2.2=0/\(rt s (rd s 0).2.1).2.2=0/\(rd s (rt s (rd s 0).2.1).2.1).2.2=0/\0<=(rd s (rt s (rd s 0).2.1).2.1).1/\(rd s (rt s (rd s 0).2.1).2.1).1<=20
instance (s:ByteArray):Decidable (innerOk s):=by unfold innerOk;infer_instance
def innerR (s:ByteArray):Option Rec :=
 if innerOk s then
  match pathR s (rd s (rt s (rd s 0).2.1).2.1).1.toNat (rd s (rt s (rd s 0).2.1).2.1).2.1 [] with
  |some q=>if q.2=s.size then some ((rd s 0).1,(rt s (rd s 0).2.1).1,q.1) else none
  |none=>none
 else none
def usT (s:ByteArray):ByteArray:=if 8000<s.size then ⟨#[]⟩ else if s.size<4 then ⟨#[]⟩ else if Se.sealV (s.extract 0 (s.size-4))=s then s.extract 0 (s.size-4) else ⟨#[]⟩
def usC (s:ByteArray):Int:=if 8000<s.size then 2 else if s.size<4 then 4 else if Se.sealV (s.extract 0 (s.size-4))=s then 0 else 5
theorem unseal_all (s:ByteArray):Se.unsealV s=.agg #[.string (usT s),.int .i64 0,.int .i64 (usC s)]:=by
 unfold Se.unsealV usT usC
 split
 ·rfl
 ·split
  ·rfl
  ·split
   ·rfl
   ·rfl
def recR (s:ByteArray) (e:Nat):Option (Rec × Nat) :=
 if (rt s e).2.2=0/\usC (rt s e).1=0 then (innerR (usT (rt s e).1)).map (fun r=>(r,(rt s e).2.1)) else none
theorem innerR_facts {s:ByteArray} {r:Rec} (h:innerR s=some r):r.2.2.length<=20/\r.2.1.size<=8000/\s.size<=8000:=by
 unfold innerR at h
 split at h
 ·rename_i hok
  obtain⟨h1,h2,h3,h4,h5⟩:=hok
  split at h
  ·rename_i q hq
   have hf:=pathR_facts hq
   split at h
   ·cases h
    have:=rt_more _ _ h2
    refine⟨?_,this.2.2.2,this.2.2.1⟩
    show q.1.length<=20
    rw[hf.1]
    simp
    omega
   ·cases h
  ·cases h
 ·cases h
theorem recR_facts {s:ByteArray} {e:Nat} {x:Rec × Nat} (h:recR s e=some x):e<x.2/\x.2<=s.size/\s.size<=8000/\x.1.2.2.length<=20/\x.1.2.1.size<=8000:=by
 unfold recR at h
 split at h
 ·rename_i hc
  have h1:=rt_more s e hc.1
  obtain⟨r,hr,rfl⟩:=Option.map_eq_some_iff.1 h
  have h2:=innerR_facts hr
  exact⟨by simpa using h1.1,h1.2.1,h1.2.2.1,h2.1,h2.2.1⟩
 ·cases h
def hasR (out:List Rec) (i:Int):Bool:=out.any fun r=>r.1==i
def goR (fit:Rec->Bool) (s:ByteArray):Nat->List Rec->Nat->List Rec × Nat
 |0,out,e=>(out,e)
 |f+1,out,e=>if e<s.size then
   match recR s e with
   |some x=>if fit x.1=true/\hasR out x.1.1=false then goR fit s f (out++[x.1]) x.2 else (out,e)
   |none=>(out,e)
  else (out,e)
theorem goR_end {fit:Rec->Bool} {s:ByteArray} {f e:Nat} {out:List Rec} (h:s.size<=e):goR fit s f out e=(out,e):=by
 cases f with
 |zero=>rfl
 |succ f=>rw[goR,if_neg (by omega)]
theorem goR_none {fit:Rec->Bool} {s:ByteArray} {f e:Nat} {out:List Rec} (h:recR s e=none):goR fit s f out e=(out,e):=by
 cases f with
 |zero=>rfl
 |succ f =>
  rw[goR,h]
  split<;>rfl
theorem goR_bad {fit:Rec->Bool} {s:ByteArray} {f e:Nat} {out:List Rec} {x:Rec × Nat} (h:recR s e=some x) (hb:¬(fit x.1=true/\hasR out x.1.1=false)):goR fit s f out e=(out,e):=by
 cases f with
 |zero=>rfl
 |succ f =>
  rw[goR,h]
  split
  ·exact if_neg hb
  ·rfl
theorem goR_fuel {fit:Rec->Bool} {s:ByteArray}:∀ (f g e:Nat) (out:List Rec),s.size-e<=f->s.size-e<=g->goR fit s f out e=goR fit s g out e:=by
 intro f
 induction f with
 |zero=>intro g e out h1 h2;rw[goR_end (by omega),goR_end (by omega)]
 |succ f ih =>
  intro g e out h1 h2
  by_cases he:e<s.size
  ·cases g with
   |zero=>omega
   |succ g =>
    rw[goR,goR,if_pos he,if_pos he]
    cases hr:recR s e with
    |none=>rfl
    |some x =>
     have:=recR_facts hr
     show (if _ then _ else _)=(if _ then _ else _)
     split
     ·exact ih g x.2 _ (by omega) (by omega)
     ·rfl
  ·rw[goR_end (by omega),goR_end (by omega)]
theorem goR_step {fit:Rec->Bool} {s:ByteArray} {e:Nat} {out:List Rec} {x:Rec × Nat} (h:recR s e=some x) (h1:fit x.1=true) (h2:hasR out x.1.1=false):goR fit s (s.size-e) out e=goR fit s (s.size-x.2) (out++[x.1]) x.2:=by
 have hf:=recR_facts h
 obtain⟨k,hk⟩:∃ k,s.size-e=k+1:=⟨s.size-e-1,by omega⟩
 rw[hk,goR,if_pos (by omega),h]
 show (if _ then _ else _)=_
 rw[if_pos ⟨h1,h2⟩]
 exact goR_fuel _ _ _ _ (by omega) (Nat.le_refl _)
def allR (fit:Rec->Bool) (s:ByteArray):List Rec × Nat:=goR fit s (s.size-0) [] 0
theorem goR_le {fit:Rec->Bool} {s:ByteArray}:∀ (f e:Nat) (out:List Rec),e<=s.size->e<=(goR fit s f out e).2/\(goR fit s f out e).2<=s.size:=by
 intro f
 induction f with
 |zero=>intro e out h;exact⟨Nat.le_refl _,h⟩
 |succ f ih =>
  intro e out h
  by_cases he:e<s.size
  ·rw[goR,if_pos he]
   cases hr:recR s e with
   |none=>exact⟨Nat.le_refl _,h⟩
   |some x =>
    have hf:=recR_facts hr
    show e<=(if _ then _ else _:List Rec × Nat).2/\(if _ then _ else _:List Rec × Nat).2<=_
    split
    ·have:=ih x.2 (out++[x.1]) hf.2.1
     omega
    ·exact⟨Nat.le_refl _,h⟩
  ·rw[goR_end (by omega)]
   exact⟨Nat.le_refl _,h⟩
theorem goR_many {fit:Rec->Bool} {s:ByteArray}:∀ (f e:Nat) (out:List Rec),out.length<=e->(goR fit s f out e).1.length<=(goR fit s f out e).2:=by
 intro f
 induction f with
 |zero=>intro e out h;exact h
 |succ f ih =>
  intro e out h
  by_cases he:e<s.size
  ·rw[goR,if_pos he]
   cases hr:recR s e with
   |none=>exact h
   |some x =>
    have hf:=recR_facts hr
    show (if _ then _ else _:List Rec × Nat).1.length<=(if _ then _ else _:List Rec × Nat).2
    split
    ·exact ih x.2 (out++[x.1]) (by rw[List.length_append];simp;omega)
    ·exact h
  ·rw[goR_end (by omega)]
   exact h
theorem allR_many (fit:Rec->Bool) (s:ByteArray):(allR fit s).1.length<=(allR fit s).2:=goR_many _ _ _ (Nat.zero_le _)
theorem allR_le (fit:Rec->Bool) (s:ByteArray):(allR fit s).2<=s.size:=(goR_le _ _ _ (Nat.zero_le _)).2
end Go.Proofs.YtpddanmnlkcdpaaGreatDoor.Kp


namespace Go.Proofs.YtpddanmnlkcdpaaGreatDoor.Kp
open Go.RowKit
open Gn (rd rt tupV errV readText_any)
open St (OwnS one_newS one_cellS app_one)
theorem readPath_any (s:ByteArray) (e n:Nat) (w:World) (hs:s.size<=maxLen) (hn:n<=20) :
  Calls Tryz.prog 173 #[.string s,.int .i64 e,.int .i64 n] w fun r w' =>
   ((∃ q v,pathR s n e []=some q/\r=.returned (.tuple #[v,.int .i64 q.2,.nilIface])/\OwnS w' w.heap.size v q.1) ∨
   (pathR s n e []=none/\∃ c,r=.returned (.tuple #[.slice none 0 0,.int .i64 0,.iface 235 (.agg #[.int .i64 c])])))/\Below w.heap.size w w':=by
 obtain⟨i0,hif,hz0,hz1,hz2⟩:=info_parts St.Tryz.infoS9
 go_enter Tryz.func173,Tryz.ntmps173
 go_wp2_with fail
 go_loopw [14,1,9,10,11,12] (fun jv ev tv _ _ _ wr=>∃ (j e1:Nat) (l:List ByteArray),jv=.int .i64 j/\ev=.int .i64 e1/\j<=n/\l.length=j/\pathR s n e []=pathR s (n-j) e1 l/\OwnS wr w.heap.size tv l/\Below w.heap.size w wr) (fun jv _ _ _ _ _ _=>n-(intOf jv).toNat)
 case atStart=>exact⟨0,e,[],rfl,rfl,Nat.zero_le _,rfl,rfl,OwnS.nil _ _,Below.refl _ _⟩
 case round =>
  obtain⟨j,e1,l,rfl,rfl,hj,hl,hp,ho,hbw⟩:=hrel
  have O:=hideK ho
  have BW:=hideK hbw
  have HP:=hideK hp
  have HL:=hideK hl
  have hzr:=hbw.size
  clear ho hbw hp hl
  by_cases hlt:j<n
  ·have hlt':(j:Int)<(n:Int):=by omega
   have hnj:n-j=(n-(j+1))+1:=by omega
   have HNJ:=hideK hnj
   clear hnj
   have HRT:=hideK (fun W=>readText_any s e1 W hs)
   unfold tupV at HRT
   have HY:=hideK (fun h=>pathR_yes (s:=s) (n:=n-(j+1)) (e:=e1) (l:=l) h)
   have HN:=hideK (fun h=>pathR_no (s:=s) (n:=n-(j+1)) (e:=e1) (l:=l) h)
   generalize rt s e1=x at HRT HY HN
   obtain⟨tx,p,c⟩:=x
   dsimp only at HRT HY HN
   by_cases hc:c=0
   ·have HY1:=hideK (HY.out hc)
    simp only[errV,if_pos hc]at HRT
    clear HY HN hc
    go_wp2_with fail
    refine(HRT.out _).mono ?_
    rintro e w3 ⟨rfl,hb⟩
    have O3:=hideK (O.out.below hb)
    have B3:=hideK (BW.out.trans (hb.mono hzr))
    have hz3:=B3.out.size
    clear hb O HRT
    go_wp2_with (at_builtin;refine wpList_append_own _ rfl (.tmp 26) (.tmp 28) 46 rfl w.heap.size 9 i0 (.string ⟨#[]⟩) 1 16 Tryz.underlying46 hif hz0 hz1 hz2 rfl (by decide) _ _ _ rfl (World.ownsRow.alloc O3.out _) ⟨w3.heap.size,0,none⟩ 1 1 [.string tx] rfl rfl (one_newS w3 _ _) (one_cellS _) (by rw[HL.out];unfold maxLen;omega) (by rw[HL.out];omega) (by simp;omega) ?_)
    intro v' w4 hown hgrow _
    have O4:=hideK (OwnS.snoc hown)
    have B4:=hideK (app_one B3.out hz3 (Nat.le_refl _) O3.out hgrow)
    clear hown hgrow
    go_wp2_with fail
    go_roundw
    case rel=>exact⟨j+1,p,l++[tx],by go_num,rfl,by omega,by rw[List.length_append,HL.out];rfl,by rw[HP.out,HNJ.out,HY1.out],O4.out,B4.out⟩
    case measure=>simp[intOf];omega
   ·have HN1:=hideK (HN.out hc)
    simp only[errV,if_neg hc]at HRT
    clear HY HN hc
    go_wp2_with fail
    refine(HRT.out _).mono ?_
    rintro e w3 ⟨rfl,hb⟩
    have B3:=hideK (BW.out.trans (hb.mono hzr))
    clear hb O HRT
    go_wp2_with fail
    go_ret3
    exact⟨.inr ⟨by rw[HP.out,HNJ.out,HN1.out],c,rfl⟩,B3.out⟩
  ·obtain rfl:j=n:=by omega
   have HE:Hid (pathR s j e []=some (l,e1)):=by
    unfold Hid
    rw[HP.out,Nat.sub_self,pathR]
   go_wp2_with fail
   go_ret3
   exact⟨.inl ⟨(l,e1),_,HE.out,rfl,O.out⟩,BW.out⟩
end Go.Proofs.YtpddanmnlkcdpaaGreatDoor.Kp


namespace Go.Proofs.YtpddanmnlkcdpaaGreatDoor.Pe
open Go.RowKit
open Kp
open Ls (lowL)
def szV (L:Int) (k:Nat):Int:=if L-k<0 then -1 else L-k
theorem szV_yes {L:Int} {k:Nat} (h:(k:Int)<=L):szV L k=L-k:=by unfold szV;rw[if_neg (by omega)]
theorem szV_no {L:Int} {k:Nat} (h:¬(k:Int)<=L):szV L k = -1:=by unfold szV;rw[if_pos (by omega)]
def cost (o:Oth):Nat:=o.name.size+o.has.length
def tot (l:List Oth):Nat:=(l.map cost).sum
theorem tot_take {m:List MO} {j:Nat} (h:j<m.length):tot (oths (m.take (j+1)))=tot (oths (m.take j))+cost m[j].1:=by
 unfold tot oths
 rw[List.take_succ_eq_append_getElem h,List.map_append,List.map_append,List.sum_append]
 simp
theorem tot_le {m:List MO} (j:Nat):tot (oths (m.take j))<=tot (oths m):=by
 have h:oths m=oths (m.take j)++oths (m.drop j):=by
  unfold oths
  rw[<-List.map_append,List.take_append_drop]
 rw[h]
 unfold tot
 rw[List.map_append,List.sum_append]
 omega
theorem cost_le {m:List MO} {x:MO} (hx:x∈m):cost x.1<=tot (oths m):=by
 obtain⟨j,hj,rfl⟩:=List.getElem_of_mem hx
 have h1:=tot_take hj
 have h2:=tot_le (m:=m) (j+1)
 omega
def Lens (m:List MO):Prop:=∀ x∈m,x.1.has.length<=maxLen/\x.1.name.size<=maxLen
theorem szI_any (a:Option Addr) (n cap:Nat) (L:Int) (w:World) (hL0:0<=L) (hL1:L<=1048576) (hn:n<=maxLen) :
  Calls Tryz.prog 100 #[.slice a n cap,.int .i64 L] w fun e w'=>e=.returned (.int .i64 (szV L n))/\w'=w:=by
 unfold maxLen at hn
 have hw:IntKind.i64.wrap (L-(n:Int))=L-(n:Int):=by rw[IntKind.wrap_i64];omega
 by_cases h:(n:Int)<=L
 ·have HE:=hideK (szV_yes h)
  have h1:¬(L-(n:Int))<0:=by omega
  go_enter Tryz.func100,Tryz.ntmps100
  go_wp2_with fail
  go_ret
  exact⟨by rw[HE.out];rfl,rfl⟩
 ·have HE:=hideK (szV_no h)
  have h1:(L-(n:Int))<0:=by omega
  go_enter Tryz.func100,Tryz.ntmps100
  go_wp2_with fail
  go_ret
  exact⟨by rw[HE.out];rfl,rfl⟩
theorem szO_any (nm:ByteArray) (a:Option Addr) (n cap:Nat) (q g t L:Int) (w:World) (hL0:0<=L) (hL1:L<=1048576) (hn:n<=maxLen) (hnm:nm.size<=maxLen) :
  Calls Tryz.prog 57 #[.agg #[.string nm,.slice a n cap,.int .i64 q,.int .i64 g,.int .i64 t],.int .i64 L] w fun e w'=>e=.returned (.int .i64 (szV L (nm.size+n)))/\Below w.heap.size w w':=by
 have C0:=hideK ((Cx.nil w).new (.cells #[.string nm,.slice a n cap,.int .i64 q,.int .i64 g,.int .i64 t] 106))
 have hw:IntKind.i64.wrap (L-(nm.size:Int))=L-(nm.size:Int):=by unfold maxLen at hnm;rw[IntKind.wrap_i64];omega
 by_cases h:(nm.size:Int)<=L
 ·have h1:¬(L-(nm.size:Int))<0:=by omega
  have HI:=hideK (fun W=>szI_any a n cap (L-(nm.size:Int)) W (by omega) (by omega) hn)
  have HV:Hid (szV (L-(nm.size:Int)) n=szV L (nm.size+n)):=by
   unfold Hid szV
   rw[show L-(nm.size:Int)-(n:Int)=L-((nm.size+n:Nat):Int) by omega]
  rw[HV.out]at HI
  clear HV
  generalize hx:szV L (nm.size+n)=X at HI ⊢
  have HX:Hid (X<0->X = -1):=fun h=>by rw[<-hx]at h ⊢;unfold szV at h ⊢;split at h<;>simp_all
  clear hx
  go_enter Tryz.func57,Tryz.ntmps57
  go_wp2_with fail
  refine(HI.out _).mono ?_
  rintro e w1 ⟨rfl,hw1⟩
  subst hw1
  by_cases h2:X<0
  ·have HE:=hideK (HX.out h2)
   go_wp2_with fail
   go_ret
   exact⟨by rw[HE.out];rfl,C0.out.low⟩
  ·go_wp2_with fail
   go_ret
   exact⟨rfl,C0.out.low⟩
 ·have h1:(L-(nm.size:Int))<0:=by omega
  have HE:=hideK (szV_no (L:=L) (k:=nm.size+n) (by omega))
  go_enter Tryz.func57,Tryz.ntmps57
  go_wp2_with fail
  go_ret
  exact⟨by rw[HE.out];rfl,C0.out.low⟩
theorem szOs_any (a:Option Addr) (n cap:Nat) (m:List MO) (L:Int) (w:World) (h:Oths w w.heap.size a m) (hm:m.length=n) (hL0:0<=L) (hL1:L<=1048576) (hn:n<=maxLen) (hl:Lens m) :
  Calls Tryz.prog 24 #[.slice a n cap,.int .i64 L] w fun e w'=>e=.returned (.int .i64 (szV L (n+tot (oths m))))/\Below w.heap.size w w':=by
 have hw:IntKind.i64.wrap (L-(n:Int))=L-(n:Int):=by unfold maxLen at hn;rw[IntKind.wrap_i64];omega
 have HS:=hideK h
 have HM:=hideK hm
 have HL:=hideK hl
 clear h hm hl
 by_cases h0:(n:Int)<=L
 ·have h1:¬(L-(n:Int))<0:=by omega
  have HEND:Hid (((n+tot (oths m):Nat):Int)<=L->szV L (n+tot (oths m))=L-(n+tot (oths m):Nat)):=fun h=>szV_yes h
  have HBAD:Hid (¬((n+tot (oths m):Nat):Int)<=L->szV L (n+tot (oths m)) = -1):=fun h=>szV_no h
  have HTL:=hideK (fun j=>tot_le (m:=m) j)
  have HTT:Hid (oths (m.take n)=oths m):=by unfold Hid;rw[List.take_of_length_le (by rw[HM.out];exact Nat.le_refl _)]
  generalize szV L (n+tot (oths m))=X at HEND HBAD ⊢
  go_enter Tryz.func24,Tryz.ntmps24
  go_wp2_with fail
  go_loopw [1,5] (fun lv jv wr=>∃ j T:Nat,jv=.int .i64 j/\lv=.int .i64 (L-(n:Int)-(T:Int))/\j<=n/\T=tot (oths (m.take j))/\(n:Int)+T<=L/\Below w.heap.size w wr) (fun _ jv _=>n-(intOf jv).toNat)
  case atStart=>exact⟨0,0,rfl,by go_num,Nat.zero_le _,rfl,by omega,Below.refl _ _⟩
  case round =>
   obtain⟨j,T,rfl,rfl,hj,hT,hle,hbel⟩:=hrel
   have HTE:=hideK hT
   have GB:=hideK hbel
   clear hT hbel
   by_cases hlt:j<n
   ·have hlt':(j:Int)<(n:Int):=by omega
    have hjl:j<m.length:=by rw[HM.out];exact hlt
    obtain⟨b,off,rfl,hb,hc⟩:=HS.out.some (by omega)
    obtain⟨d0,d1,d2,d3,d4⟩:=(hc j hjl).below GB.out hb
    obtain⟨ax,cx,hxv,_,_,_⟩:=HS.out.2 m[j] (List.getElem_mem hjl)
    obtain⟨hk1,hk2⟩:=HL.out m[j] (List.getElem_mem hjl)
    have HT2:=hideK (tot_take hjl)
    have HC:Hid (cost m[j].1=m[j].1.name.size+m[j].1.has.length):=rfl
    rw[hxv]at d1
    generalize cost m[j].1=K at HT2 HC
    generalize m[j].1.name=nm at d0 HC hk2
    generalize m[j].1.has.length=k at d1 HC hk1
    generalize m[j].1.asked=q at d2
    generalize m[j].1.age=g at d3
    generalize m[j].1.strikes=t at d4
    clear hc hxv
    have HO:=hideK (fun W=>szO_any nm ax k cx q g t (L-(n:Int)-(T:Int)) W (by omega) (by omega) hk1 hk2)
    rw[<-HC.out]at HO
    have HV:Hid (szV (L-(n:Int)-(T:Int)) K=szV L (n+(T+K))):=by
     unfold Hid szV
     rw[show L-(n:Int)-(T:Int)-(K:Int)=L-((n+(T+K):Nat):Int) by omega]
    rw[HV.out]at HO
    by_cases h2:((n+(T+K):Nat):Int)<=L
    ·rw[szV_yes h2,show L-((n+(T+K):Nat):Int)=L-(n:Int)-((T+K:Nat):Int) by omega]at HO
     have h3:¬(L-(n:Int)-((T+K:Nat):Int))<0:=by omega
     have HTK:Hid (T+K=tot (oths (m.take (j+1)))):=by unfold Hid;rw[HT2.out,<-HTE.out]
     have h4:(n:Int)+((T+K:Nat):Int)<=L:=by omega
     generalize T+K=T2 at HO h3 HTK h4
     clear h2 HV HT2 HC
     go_wp2_with fail
     refine(HO.out _).mono ?_
     rintro e w1 ⟨rfl,hb1⟩
     have G1:=hideK (lowL GB.out hb1)
     clear hb1
     go_wp2_with fail
     go_roundw
     case rel=>exact⟨j+1,T2,by go_num,rfl,by omega,HTK.out,h4,G1.out⟩
     case measure=>simp[intOf];omega
    ·rw[szV_no h2]at HO
     have h5:=HTL.out (j+1)
     rw[HT2.out,<-HTE.out]at h5
     have HE:=hideK (HBAD.out (by omega))
     clear h5
     clear HV HT2 HC
     go_wp2_with fail
     refine(HO.out _).mono ?_
     rintro e w1 ⟨rfl,hb1⟩
     have G1:=hideK (lowL GB.out hb1)
     clear hb1
     go_wp2_with fail
     go_ret
     exact⟨by rw[HE.out];rfl,G1.out⟩
   ·obtain rfl:j=n:=by omega
    have HTN:Hid (T=tot (oths m)):=by unfold Hid;rw[HTE.out,HTT.out]
    have HE:=hideK (HEND.out (by rw[<-HTN.out];omega))
    have HF:Hid (L-(j:Int)-(T:Int)=X):=by unfold Hid;rw[HE.out,<-HTN.out];omega
    go_wp2_with fail
    go_ret
    exact⟨by rw[<-HF.out];rfl,GB.out⟩
 ·have h1:(L-(n:Int))<0:=by omega
  have HE:=hideK (szV_no (L:=L) (k:=n+tot (oths m)) (by omega))
  go_enter Tryz.func24,Tryz.ntmps24
  go_wp2_with fail
  go_ret
  exact⟨by rw[HE.out];rfl,Below.refl _ _⟩
def lpO (z b:Int) (r s:ByteArray) (y:Int) (v:Value):Obj:=.cells #[.int .i64 z,.int .i64 b,.string r,.string s,.int .i64 y,v] 28
def lpV (z b:Int) (r s:ByteArray) (y:Int) (v:Value):Value:=.agg #[.int .i64 z,.int .i64 b,.string r,.string s,.int .i64 y,v]
theorem szP_any (z b:Int) (r s:ByteArray) (y:Int) (a:Option Addr) (n cap:Nat) (m:List MO) (w:World) (h:Oths w w.heap.size a m) (hm:m.length=n) (hr:r.size<=maxLen) (hs:s.size<=maxLen) (hn:n<=maxLen) (hl:Lens m) :
  Calls Tryz.prog 6 #[lpV z b r s y (.slice a n cap),.int .i64 1048576] w fun e w'=>e=.returned (.int .i64 (szV 1048576 (r.size+s.size+(n+tot (oths m)))))/\Below w.heap.size w w':=by
 have C0:=hideK ((Cx.nil w).new (lpO z b r s y (.slice a n cap)))
 unfold lpV
 unfold lpO at C0
 by_cases h0:r.size+s.size<=1048576
 ·have HK:=hideK (fun W=>szK_yes z b r s y W h0)
  have h1:¬(1048576-(r.size:Int)-(s.size:Int))<0:=by omega
  have h2:decide ((1048576-(r.size:Int)-(s.size:Int))<0)=false:=by simp;omega
  have HO:=hideK (fun W (hW:Below w.heap.size w W)=>szOs_any a n cap m (1048576-(r.size:Int)-(s.size:Int)) W ((h.below hW).mono hW.size) hm (by omega) (by omega) hn hl)
  have HV:Hid (szV (1048576-(r.size:Int)-(s.size:Int)) (n+tot (oths m))=szV 1048576 (r.size+s.size+(n+tot (oths m)))):=by
   unfold Hid szV
   rw[show 1048576-(r.size:Int)-(s.size:Int)-((n+tot (oths m):Nat):Int)=1048576-((r.size+s.size+(n+tot (oths m)):Nat):Int) by omega]
  rw[HV.out]at HO
  clear HV h
  generalize hx:szV 1048576 (r.size+s.size+(n+tot (oths m)))=X at HO ⊢
  have HX:Hid (X<0->X = -1):=fun h=>by rw[<-hx]at h ⊢;unfold szV at h ⊢;split at h<;>simp_all
  clear hx
  unfold kV at HK
  go_enter Tryz.func6,Tryz.ntmps6
  go_wp2_with fail
  generalize w.alloc _=W0 at C0 ⊢
  refine(HK.out _).mono ?_
  rintro e w1 ⟨rfl,hb⟩
  have C1:=hideK (C0.out.call hb)
  clear hb C0
  have k5:=cell_of_row w1 w.heap.size 5 _ _ _ (C1.out.get 0 rfl)
  simp at k5
  go_wp2_with fail
  refine(HO.out _ C1.out.low).mono ?_
  rintro e w2 ⟨rfl,hb⟩
  have C2:=hideK (C1.out.call hb)
  clear hb C1
  by_cases h3:X<0
  ·have HE:=hideK (HX.out h3)
   go_wp2_with fail
   go_ret
   exact⟨by rw[HE.out];rfl,C2.out.low⟩
  ·go_wp2_with fail
   go_ret
   exact⟨rfl,C2.out.low⟩
 ·have HK:=hideK (fun W=>szK_no z b r s y W (by unfold maxLen at hr;omega) (by unfold maxLen at hs;omega) h0)
  have HE:=hideK (szV_no (L:=1048576) (k:=r.size+s.size+(n+tot (oths m))) (by omega))
  unfold kV at HK
  go_enter Tryz.func6,Tryz.ntmps6
  go_wp2_with fail
  generalize w.alloc _=W0 at C0 ⊢
  refine(HK.out _).mono ?_
  rintro e w1 ⟨rfl,hb⟩
  have C1:=hideK (C0.out.call hb)
  clear hb C0
  go_wp2_with fail
  go_ret
  exact⟨by rw[HE.out];rfl,C1.out.low⟩
end Go.Proofs.YtpddanmnlkcdpaaGreatDoor.Pe


/- slices.Insert of one element into a row of others of the call's own. -/
namespace Go.Proofs.YtpddanmnlkcdpaaGreatDoor.Pm
open Go.RowKit
open Kp (hideK)
end Go.Proofs.YtpddanmnlkcdpaaGreatDoor.Pm

