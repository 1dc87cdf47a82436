/- Texts put together: KpPlain, KpPath, KpRow, KpInner, KpRec. -/
import Derived.Test.YtikiihjabbmkcaaGreatDoorBz28
import Derived.Test.YtikiihjabbmkcaaGreatDoorBz32
import Derived.Test.YtikiihjabbmkcaaGreatDoorBz20
import Derived.Test.YtikiihjabbmkcaaGreatDoorBz15
import Derived.Laws.OwnMore
import Derived.Test.YtikiihjabbmkcaaGreatDoorBz29
set_option maxRecDepth 100000
set_option maxHeartbeats 8000000
/- What is kept: records and logs in plain words. -/
namespace Go.Proofs.YtikiihjabbmkcaaGreatDoor.Kp
open Go.RowKit
open Gn (rd rt run numR run_place rd_place)
theorem run_more (s:ByteArray):∀ f k p u,(run s f k p u).2.2=0->p<(run s f k p u).2.1:=by
 intro f
 induction f with
 |zero=>intro k p u h;exact absurd h (by rw[run];decide)
 |succ f ih =>
  intro k p u
  rw[run]
  split
  ·intro h;exact absurd h (by decide)
  ·split
   ·intro h;exact absurd h (by decide)
   ·split
    ·split
     ·intro h;exact absurd h (by decide)
     ·intro _;exact Nat.lt_succ_self _
    ·intro h
     have:=ih _ _ _ h
     omega
theorem rd_more (s:ByteArray) (a:Int) (h:(rd s a).2.2=0):a.toNat<(rd s a).2.1/\(rd s a).2.1<=s.size/\s.size<=8000:=by
 have h1:=rd_place s a h
 refine⟨?_,h1.2,h1.1⟩
 unfold rd at h ⊢
 split at h
 ·exact absurd h (by decide)
 ·split at h
  ·exact absurd h (by decide)
  ·rename_i h1 h2
   rw[if_neg h1,if_neg h2]
   exact run_more s 10 0 a.toNat 0 h
theorem rt_more (s:ByteArray) (a:Int) (h:(rt s a).2.2=0):a.toNat<(rt s a).2.1/\(rt s a).2.1<=s.size/\s.size<=8000/\(rt s a).1.size<=8000:=by
 unfold rt at h ⊢
 split at h
 ·rename_i h1
  exact absurd h h1
 ·rename_i h1
  have h1':(rd s a).2.2=0:=Decidable.not_not.1 h1
  have hm:=rd_more s a h1'
  split at h
  ·exact absurd h (by decide)
  ·rename_i h2
   split at h
   ·exact absurd h (by decide)
   ·rename_i h3
    rw[if_neg h1,if_neg h2,if_neg h3]
    refine⟨?_,?_,hm.2.2,?_⟩
    ·show a.toNat<(rd s a).2.1+(rd s a).1.toNat
     omega
    ·show (rd s a).2.1+(rd s a).1.toNat<=s.size
     omega
    ·show (s.extract _ _).size<=8000
     rw[ByteArray.size_extract]
     omega
abbrev Rec:=Int × ByteArray × List ByteArray
def pathR (s:ByteArray):Nat->Nat->List ByteArray->Option (List ByteArray × Nat)
 |0,e,l=>some (l,e)
 |n+1,e,l=>if (rt s e).2.2=0 then pathR s n (rt s e).2.1 (l++[(rt s e).1]) else none
theorem pathR_yes {s:ByteArray} {n e:Nat} {l:List ByteArray} (h:(rt s e).2.2=0):pathR s (n+1) e l=pathR s n (rt s e).2.1 (l++[(rt s e).1]):=by
 rw[pathR,if_pos h]
theorem pathR_no {s:ByteArray} {n e:Nat} {l:List ByteArray} (h:¬(rt s e).2.2=0):pathR s (n+1) e l=none:=by
 rw[pathR,if_neg h]
theorem pathR_facts {s:ByteArray}:∀ {n e:Nat} {l:List ByteArray} {q:List ByteArray × Nat},pathR s n e l=some q->q.1.length=l.length+n/\e<=q.2
 |0,e,l,q,h=>by
  rw[pathR]at h
  cases h
  exact⟨rfl,Nat.le_refl _⟩
 |n+1,e,l,q,h=>by
  by_cases hc:(rt s e).2.2=0
  ·rw[pathR_yes hc]at h
   have h1:=pathR_facts h
   have h2:=(rt_more s e hc).1
   rw[List.length_append]at h1
   simp at h1 h2
   omega
  ·rw[pathR_no hc]at h
   cases h
def innerOk (s:ByteArray):Prop:=(rd s 0).2.2=0/\(rt s (rd s 0).2.1).2.2=0/\(rd s (rt s (rd s 0).2.1).2.1).2.2=0/\0<=(rd s (rt s (rd s 0).2.1).2.1).1/\(rd s (rt s (rd s 0).2.1).2.1).1<=20
instance (s:ByteArray):Decidable (innerOk s):=by unfold innerOk;infer_instance
def innerR (s:ByteArray):Option Rec :=
 if innerOk s then
  match pathR s (rd s (rt s (rd s 0).2.1).2.1).1.toNat (rd s (rt s (rd s 0).2.1).2.1).2.1 [] with
  |some q=>if q.2=s.size then some ((rd s 0).1,(rt s (rd s 0).2.1).1,q.1) else none
  |none=>none
 else none
def usT (s:ByteArray):ByteArray:=if 8000<s.size then ⟨#[]⟩ else if s.size<4 then ⟨#[]⟩ else if Se.sealV (s.extract 0 (s.size-4))=s then s.extract 0 (s.size-4) else ⟨#[]⟩
def usC (s:ByteArray):Int:=if 8000<s.size then 2 else if s.size<4 then 4 else if Se.sealV (s.extract 0 (s.size-4))=s then 0 else 5
theorem unseal_all (s:ByteArray):Se.unsealV s=.agg #[.string (usT s),.int .i64 0,.int .i64 (usC s)]:=by
 unfold Se.unsealV usT usC
 split
 ·rfl
 ·split
  ·rfl
  ·split
   ·rfl
   ·rfl
def recR (s:ByteArray) (e:Nat):Option (Rec × Nat) :=
 if (rt s e).2.2=0/\usC (rt s e).1=0 then (innerR (usT (rt s e).1)).map (fun r=>(r,(rt s e).2.1)) else none
theorem innerR_facts {s:ByteArray} {r:Rec} (h:innerR s=some r):r.2.2.length<=20/\r.2.1.size<=8000/\s.size<=8000:=by
 unfold innerR at h
 split at h
 ·rename_i hok
  obtain⟨h1,h2,h3,h4,h5⟩:=hok
  split at h
  ·rename_i q hq
   have hf:=pathR_facts hq
   split at h
   ·cases h
    have:=rt_more _ _ h2
    refine⟨?_,this.2.2.2,this.2.2.1⟩
    show q.1.length<=20
    rw[hf.1]
    simp
    omega
   ·cases h
  ·cases h
 ·cases h
theorem recR_facts {s:ByteArray} {e:Nat} {x:Rec × Nat} (h:recR s e=some x):e<x.2/\x.2<=s.size/\s.size<=8000/\x.1.2.2.length<=20/\x.1.2.1.size<=8000:=by
 unfold recR at h
 split at h
 ·rename_i hc
  have h1:=rt_more s e hc.1
  obtain⟨r,hr,rfl⟩:=Option.map_eq_some_iff.1 h
  have h2:=innerR_facts hr
  exact⟨by simpa using h1.1,h1.2.1,h1.2.2.1,h2.1,h2.2.1⟩
 ·cases h
def hasR (out:List Rec) (i:Int):Bool:=out.any fun r=>r.1==i
def goR (fit:Rec->Bool) (s:ByteArray):Nat->List Rec->Nat->List Rec × Nat
 |0,out,e=>(out,e)
 |f+1,out,e=>if e<s.size then
   match recR s e with
   |some x=>if fit x.1=true/\hasR out x.1.1=false then goR fit s f (out++[x.1]) x.2 else (out,e)
   |none=>(out,e)
  else (out,e)
theorem goR_end {fit:Rec->Bool} {s:ByteArray} {f e:Nat} {out:List Rec} (h:s.size<=e):goR fit s f out e=(out,e):=by
 cases f with
 |zero=>rfl
 |succ f=>rw[goR,if_neg (by omega)]
theorem goR_none {fit:Rec->Bool} {s:ByteArray} {f e:Nat} {out:List Rec} (h:recR s e=none):goR fit s f out e=(out,e):=by
 cases f with
 |zero=>rfl
 |succ f =>
  rw[goR,h]
  split<;>rfl
theorem goR_bad {fit:Rec->Bool} {s:ByteArray} {f e:Nat} {out:List Rec} {x:Rec × Nat} (h:recR s e=some x) (hb:¬(fit x.1=true/\hasR out x.1.1=false)):goR fit s f out e=(out,e):=by
 cases f with
 |zero=>rfl
 |succ f =>
  rw[goR,h]
  split
  ·exact if_neg hb
  ·rfl
theorem goR_fuel {fit:Rec->Bool} {s:ByteArray}:∀ (f g e:Nat) (out:List Rec),s.size-e<=f->s.size-e<=g->goR fit s f out e=goR fit s g out e:=by
 intro f
 induction f with
 |zero=>intro g e out h1 h2;rw[goR_end (by omega),goR_end (by omega)]
 |succ f ih =>
  intro g e out h1 h2
  by_cases he:e<s.size
  ·cases g with
   |zero=>omega
   |succ g =>
    rw[goR,goR,if_pos he,if_pos he]
    cases hr:recR s e with
    |none=>rfl
    |some x =>
     have:=recR_facts hr
     show (if _ then _ else _)=(if _ then _ else _)
     split
     ·exact ih g x.2 _ (by omega) (by omega)
     ·rfl
  ·rw[goR_end (by omega),goR_end (by omega)]
theorem goR_step {fit:Rec->Bool} {s:ByteArray} {e:Nat} {out:List Rec} {x:Rec × Nat} (h:recR s e=some x) (h1:fit x.1=true) (h2:hasR out x.1.1=false):goR fit s (s.size-e) out e=goR fit s (s.size-x.2) (out++[x.1]) x.2:=by
 have hf:=recR_facts h
 obtain⟨k,hk⟩:∃ k,s.size-e=k+1:=⟨s.size-e-1,by omega⟩
 rw[hk,goR,if_pos (by omega),h]
 show (if _ then _ else _)=_
 rw[if_pos ⟨h1,h2⟩]
 exact goR_fuel _ _ _ _ (by omega) (Nat.le_refl _)
def allR (fit:Rec->Bool) (s:ByteArray):List Rec × Nat:=goR fit s (s.size-0) [] 0
end Go.Proofs.YtikiihjabbmkcaaGreatDoor.Kp


namespace Go.Proofs.YtikiihjabbmkcaaGreatDoor.Kp
open Go.RowKit
open Gn (rd rt tupV errV readText_any)
open St (OwnS one_newS one_cellS app_one)
theorem readPath_any (s:ByteArray) (e n:Nat) (w:World) (hs:s.size<=maxLen) (hn:n<=20) :
  Calls Tryz.prog 158 #[.string s,.int .i64 e,.int .i64 n] w fun r w' =>
   ((∃ q v,pathR s n e []=some q/\r=.returned (.tuple #[v,.int .i64 q.2,.nilIface])/\OwnS w' w.heap.size v q.1) ∨
   (pathR s n e []=none/\∃ c,r=.returned (.tuple #[.slice none 0 0,.int .i64 0,.iface 228 (.agg #[.int .i64 c])])))/\Below w.heap.size w w':=by
 obtain⟨i0,hif,hz0,hz1,hz2⟩:=info_parts St.Tryz.infoS9
 go_enter Tryz.func158,Tryz.ntmps158
 go_wp2_with fail
 go_loopw [14,1,9,10,11,12] (fun jv ev tv _ _ _ wr=>∃ (j e1:Nat) (l:List ByteArray),jv=.int .i64 j/\ev=.int .i64 e1/\j<=n/\l.length=j/\pathR s n e []=pathR s (n-j) e1 l/\OwnS wr w.heap.size tv l/\Below w.heap.size w wr) (fun jv _ _ _ _ _ _=>n-(intOf jv).toNat)
 case atStart=>exact⟨0,e,[],rfl,rfl,Nat.zero_le _,rfl,rfl,OwnS.nil _ _,Below.refl _ _⟩
 case round =>
  obtain⟨j,e1,l,rfl,rfl,hj,hl,hp,ho,hbw⟩:=hrel
  have O:=hideK ho
  have BW:=hideK hbw
  have HP:=hideK hp
  have HL:=hideK hl
  have hzr:=hbw.size
  clear ho hbw hp hl
  by_cases hlt:j<n
  ·have hlt':(j:Int)<(n:Int):=by omega
   have hnj:n-j=(n-(j+1))+1:=by omega
   have HNJ:=hideK hnj
   clear hnj
   have HRT:=hideK (fun W=>readText_any s e1 W hs)
   unfold tupV at HRT
   have HY:=hideK (fun h=>pathR_yes (s:=s) (n:=n-(j+1)) (e:=e1) (l:=l) h)
   have HN:=hideK (fun h=>pathR_no (s:=s) (n:=n-(j+1)) (e:=e1) (l:=l) h)
   generalize rt s e1=x at HRT HY HN
   obtain⟨tx,p,c⟩:=x
   dsimp only at HRT HY HN
   by_cases hc:c=0
   ·have HY1:=hideK (HY.out hc)
    simp only[errV,if_pos hc]at HRT
    clear HY HN hc
    go_wp2_with fail
    refine(HRT.out _).mono ?_
    rintro e w3 ⟨rfl,hb⟩
    have O3:=hideK (O.out.below hb)
    have B3:=hideK (BW.out.trans (hb.mono hzr))
    have hz3:=B3.out.size
    clear hb O HRT
    go_wp2_with (at_builtin;refine wpList_append_own _ rfl (.tmp 26) (.tmp 28) 55 rfl w.heap.size 9 i0 (.string ⟨#[]⟩) 1 16 Tryz.underlying55 hif hz0 hz1 hz2 rfl (by decide) _ _ _ rfl (World.ownsRow.alloc O3.out _) ⟨w3.heap.size,0,none⟩ 1 1 [.string tx] rfl rfl (one_newS w3 _ _) (one_cellS _) (by rw[HL.out];unfold maxLen;omega) (by rw[HL.out];omega) (by simp;omega) ?_)
    intro v' w4 hown hgrow _
    have O4:=hideK (OwnS.snoc hown)
    have B4:=hideK (app_one B3.out hz3 (Nat.le_refl _) O3.out hgrow)
    clear hown hgrow
    go_wp2_with fail
    go_roundw
    case rel=>exact⟨j+1,p,l++[tx],by go_num,rfl,by omega,by rw[List.length_append,HL.out];rfl,by rw[HP.out,HNJ.out,HY1.out],O4.out,B4.out⟩
    case measure=>simp[intOf];omega
   ·have HN1:=hideK (HN.out hc)
    simp only[errV,if_neg hc]at HRT
    clear HY HN hc
    go_wp2_with fail
    refine(HRT.out _).mono ?_
    rintro e w3 ⟨rfl,hb⟩
    have B3:=hideK (BW.out.trans (hb.mono hzr))
    clear hb O HRT
    go_wp2_with fail
    go_ret3
    exact⟨.inr ⟨by rw[HP.out,HNJ.out,HN1.out],c,rfl⟩,B3.out⟩
  ·obtain rfl:j=n:=by omega
   have HE:Hid (pathR s j e []=some (l,e1)):=by
    unfold Hid
    rw[HP.out,Nat.sub_self,pathR]
   go_wp2_with fail
   go_ret3
   exact⟨.inl ⟨(l,e1),_,HE.out,rfl,O.out⟩,BW.out⟩
end Go.Proofs.YtikiihjabbmkcaaGreatDoor.Kp


/- What is kept: the blocks that a walk has laid, and rows of records in memory. -/
namespace Go.Proofs.YtikiihjabbmkcaaGreatDoor.Kp
open Go.RowKit
open St (IsO OwnS Strs)
open Ls (blkL lowL blk_alloc cells3)
abbrev MR:=Rec × Value
def recV (x:MR):Value:=.agg #[.int .i64 x.1.1,.string x.1.2.1,x.2]
def recZ:Value:=.agg #[.int .i64 0,.string ⟨#[]⟩,.slice none 0 0]
def cellsR:List MR->List Value
 |[]=>[]
 |x :: m=>.int .i64 x.1.1 :: .string x.1.2.1 :: x.2 :: cellsR m
theorem cellsR_append:∀ m k:List MR,cellsR (m++k)=cellsR m++cellsR k
 |[],k=>rfl
 |x :: m,k=>by
  rw[List.cons_append,cellsR,cellsR,cellsR_append m k]
  rfl
theorem cellsR_at:∀ (m:List MR) (i:Nat) (h:i<m.length),(cellsR m)[i*3]? = some (.int .i64 m[i].1.1)/\(cellsR m)[i*3+1]? = some (.string m[i].1.2.1)/\(cellsR m)[i*3+2]? = some m[i].2
 |x :: m,0,_=>⟨rfl,rfl,rfl⟩
 |x :: m,i+1,h=>by
  have:=cellsR_at m i (Nat.lt_of_succ_lt_succ h)
  rw[cellsR,show (i+1)*3=i*3+3 by omega,show i*3+3+1=(i*3+1)+3 by omega,show i*3+3+2=(i*3+2)+3 by omega]
  exact this
def KeepsS (W W':World):Prop:=∀ (g:Nat) (cur:Array Value),W.heap[g]? = some (.cells cur 9 (0,0))->W'.heap[g]? = some (.cells cur 9 (0,0))
theorem KeepsS.refl (W:World):KeepsS W W:=fun _ _ h=>h
theorem KeepsS.trans {W W' W'':World} (h:KeepsS W W') (k:KeepsS W' W''):KeepsS W W'':=fun g cur e=>k g cur (h g cur e)
theorem KeepsS.below {W W':World} (h:Below W.heap.size W W'):KeepsS W W':=fun g _ e=>(h.block g (lt_rowK e)).trans e
theorem KeepsS.set {W:World} {g:Nat} {cs:Array Value} {e:TypeId} (hg:W.heap[g]? = some (.cells cs e (0,0))) (he:e≠9) (i:Nat) (v:Value):KeepsS W (W.setCell ⟨g,i,none⟩ v):=fun k cur h=>by
 rw[heap_setCell_other W _ k v (by
  rintro rfl
  rw[hg]at h
  simp at h
  exact he h.2)]
 exact h
theorem KeepsS.grown {W W':World} {row:Option Nat} (h:W.grownBy W' row) (hr:∀ k,row=some k->∃ cs t,W.heap[k]? = some (.cells cs t (0,0))/\t≠9):KeepsS W W':=fun g cur e=>by
 rw[h.block g (lt_rowK e) (by
  intro hg
  obtain⟨cs,t,hk,ht⟩:=hr g hg.symm
  rw[hk]at e
  simp at e
  exact ht e.2)]
 exact e
def PathIn (W:World) (v:Value) (p:List ByteArray):Prop :=
 (v=.slice none 0 0/\p=[])∨∃ g cap,v=.slice (some ⟨g,0,none⟩) p.length cap/\p.length<=cap/\IsO W g 9 p
theorem PathIn.keeps {W W':World} {v:Value} {p:List ByteArray} (h:PathIn W v p) (k:KeepsS W W'):PathIn W' v p:=by
 rcases h with h|⟨g,cap,hv,hc,cur,hg,hj⟩
 ·exact .inl h
 ·exact .inr ⟨g,cap,hv,hc,cur,k g cur hg,hj⟩
theorem pathIn_own {W:World} {base:Nat} {v:Value} {p:List ByteArray} (h:OwnS W base v p):PathIn W v p:=by
 rcases h.split with h|⟨g,cap,hv,_,hc,ho⟩
 ·exact .inl h
 ·exact .inr ⟨g,cap,hv,hc,ho⟩
theorem PathIn.one {W:World} {v:Value} {p:List ByteArray} (h:PathIn W v p):v.oneCell'=true:=by
 rcases h with⟨rfl,_⟩|⟨g,cap,rfl,_⟩
 ·rfl
 ·rfl
theorem PathIn.strs {W:World} {v:Value} {p:List ByteArray} (h:PathIn W v p):∃ a cap,v=.slice a p.length cap/\p.length<=cap/\Strs W W.heap.size a p:=by
 rcases h with⟨rfl,rfl⟩|⟨g,cap,rfl,hc,ho⟩
 ·exact⟨none,0,rfl,Nat.le_refl _,.inl rfl⟩
 ·exact⟨_,cap,rfl,hc,ho.strs ho.lt⟩
def OwnR (W:World) (base:Nat) (v:Value) (m:List MR):Prop:=W.ownsRow base 130 3 v m.length (cellsR m)
def Paths (W:World) (m:List MR):Prop:=∀ x∈m,PathIn W x.2 x.1.2.2
theorem Paths.keeps {W W':World} {m:List MR} (h:Paths W m) (k:KeepsS W W'):Paths W' m:=fun x hx=>(h x hx).keeps k
theorem OwnR.nil (w:World) (base:Nat):OwnR w base (.slice none 0 0) []:=World.ownsRow_nil w base _ _
theorem OwnR.alloc {W:World} {base:Nat} {v:Value} {m:List MR} (h:OwnR W base v m) (o:Obj):OwnR (W.alloc o) base v m:=World.ownsRow.alloc h o
theorem OwnR.below {w w':World} {base:Nat} {v:Value} {m:List MR} (h:OwnR w base v m) (b:Below w.heap.size w w'):OwnR w' base v m:=by
 obtain⟨hl,h⟩:=h
 refine⟨hl,?_⟩
 rcases h with h|⟨g,cap,cur,hv,hg,hb,rest⟩
 ·exact .inl h
 ·exact .inr ⟨g,cap,cur,hv,hg,by rw[b.block g (lt_rowK hb)];exact hb,rest⟩
theorem OwnR.mono {w:World} {base base':Nat} {v:Value} {m:List MR} (h:OwnR w base v m) (hb:base'<=base):OwnR w base' v m:=by
 obtain⟨hl,h⟩:=h
 refine⟨hl,?_⟩
 rcases h with h|⟨g,cap,cur,hv,hg,rest⟩
 ·exact .inl h
 ·exact .inr ⟨g,cap,cur,hv,Nat.le_trans hb hg,rest⟩
theorem OwnR.one {W:World} {base:Nat} {v:Value} {m:List MR} (h:OwnR W base v m):∃ a cap,v=.slice a m.length cap:=by
 obtain⟨_,h⟩:=h
 rcases h with⟨h,h0⟩|⟨g,cap,cur,hv,_⟩
 ·exact⟨none,0,by rw[h,h0]⟩
 ·exact⟨_,cap,hv⟩
theorem OwnR.cells {W:World} {base:Nat} {v:Value} {m:List MR} (h:OwnR W base v m) (h0:0<m.length):∃ g cap,v=.slice (some ⟨g,0,none⟩) m.length cap/\base<=g/\g<W.heap.size/\m.length<=cap /\
  ∀ i (hi:i<m.length),W.cell? ⟨g,i*3,none⟩=some (.int .i64 m[i].1.1)/\W.cell? ⟨g,i*3+1,none⟩=some (.string m[i].1.2.1)/\W.cell? ⟨g,i*3+2,none⟩=some m[i].2:=by
 obtain⟨_,h⟩:=h
 rcases h with⟨_,h⟩|⟨g,cap,cur,hv,hg,hb,hn,_,hs,ht⟩
 ·omega
 ·refine⟨g,cap,hv,hg,lt_rowK hb,hn,fun i hi=>?_⟩
  have hc:=cellsR_at m i hi
  rw[<-ht]at hc
  rw[List.getElem?_take_of_lt (by omega),List.getElem?_take_of_lt (by omega),List.getElem?_take_of_lt (by omega),Array.getElem?_toList,Array.getElem?_toList,Array.getElem?_toList]at hc
  exact⟨(cell_of_row W g _ _ _ _ hb).trans hc.1,(cell_of_row W g _ _ _ _ hb).trans hc.2.1,(cell_of_row W g _ _ _ _ hb).trans hc.2.2⟩
theorem OwnR.rowT {W:World} {base:Nat} {v:Value} {m:List MR} (h:OwnR W base v m):∀ k,v.ownBlock=some k->∃ cs,W.heap[k]? = some (.cells cs 130 (0,0)):=by
 intro k hk
 obtain⟨_,h⟩:=h
 rcases h with⟨h,_⟩|⟨g,cap,cur,hv,_,hb,_⟩
 ·subst h
  simp[Value.ownBlock]at hk
 ·subst hv
  simp[Value.ownBlock]at hk
  subst hk
  exact⟨cur,hb⟩
theorem OwnR.snoc {W:World} {base:Nat} {v:Value} {m:List MR} {x:MR} (h:W.ownsRow base 130 3 v (m.length+1) (cellsR m++[.int .i64 x.1.1,.string x.1.2.1,x.2])):OwnR W base v (m++[x]):=by
 unfold OwnR
 rw[List.length_append,cellsR_append]
 exact h
theorem three_new (W:World) (x y z:Value) (t:TypeId):∀ (j:Nat) (u:Value),[x,y,z][j]? = some u->(W.alloc (.cells #[x,y,z] t)).cell? ((⟨W.heap.size,0,none⟩:Addr).add j)=some u:=by
 intro j u hj
 match j,hj with
 |0,hj=>simp at hj;subst hj;simp[Addr.add]
 |1,hj=>simp at hj;subst hj;simp[Addr.add]
 |2,hj=>simp at hj;subst hj;simp[Addr.add]
theorem three_one {x y z:Value} (hx:x.oneCell'=true) (hy:y.oneCell'=true) (hz:z.oneCell'=true):∀ u∈[x,y,z],u.oneCell'=true:=by
 intro u hu
 simp at hu
 rcases hu with rfl|rfl|rfl
 ·exact hx
 ·exact hy
 ·exact hz
def recs (m:List MR):List Rec:=m.map (·.1)
theorem hasR_recs (m:List MR) (i:Int):hasR (recs m) i=m.any fun x=>x.1.1==i:=by
 unfold hasR recs
 rw[List.any_map]
 rfl
end Go.Proofs.YtikiihjabbmkcaaGreatDoor.Kp


namespace Go.Proofs.YtikiihjabbmkcaaGreatDoor.Kp
open Go.RowKit
open Gn (rd rt handle_below)
open St (OwnS)
open Ls (HH hh_keep num_all text_all cells3 set3_all set_j3)
theorem KeepsS.set3 {W:World} {g:Nat} {x y z:Value} {T:TypeId} (hg:W.heap[g]? = some (.cells #[x,y,z] T (0,0))) (hT:T≠9) (a b c:Value):KeepsS W (((W.setCell ⟨g,0,none⟩ a).setCell ⟨g,1,none⟩ b).setCell ⟨g,2,none⟩ c) :=
 ((KeepsS.set hg hT 0 a).trans (KeepsS.set (set_j3 hg a).1 hT 1 b)).trans (KeepsS.set (set_j3 (set_j3 hg a).1 b).2.1 hT 2 c)
theorem inner_no {s:ByteArray} (h:¬innerOk s):innerR s=none:=if_neg h
theorem inner_path {s:ByteArray} (h:innerOk s) (hp:pathR s (rd s (rt s (rd s 0).2.1).2.1).1.toNat (rd s (rt s (rd s 0).2.1).2.1).2.1 []=none):innerR s=none:=by
 unfold innerR
 rw[if_pos h,hp]
theorem inner_yes {s:ByteArray} {q:List ByteArray × Nat} (h:innerOk s) (hp:pathR s (rd s (rt s (rd s 0).2.1).2.1).1.toNat (rd s (rt s (rd s 0).2.1).2.1).2.1 []=some q):innerR s=if q.2=s.size then some ((rd s 0).1,(rt s (rd s 0).2.1).1,q.1) else none:=by
 unfold innerR
 rw[if_pos h,hp]
theorem readInner_any (s:ByteArray) (w:World) (hs:s.size<=1048576) (hh:HH w) :
  Calls Tryz.prog 127 #[.string s] w fun r w' =>
   ((∃ x v,innerR s=some x/\r=.returned (.tuple #[.agg #[.int .i64 x.1,.string x.2.1,v],.bool true])/\PathIn w' v x.2.2) ∨
   (innerR s=none/\r=.returned (.tuple #[.agg #[.int .i64 0,.string ⟨#[]⟩,.slice none 0 0],.bool false])))/\Below w.heap.size w w':=by
 have HHW:Hid (∀ W,Below w.heap.size w W->HH W):=fun W h=>hh_keep hh h
 have hs2:s.size<=maxLen:=by unfold maxLen;omega
 have H1:=hideK (fun W h=>Gn.get_impl s 0 W hs2 h)
 have H2:=hideK (fun W h=>Gn.text_impl s (rd s 0).2.1 W hs2 h)
 have H3:=hideK (fun W h=>Gn.get_impl s (rt s (rd s 0).2.1).2.1 W hs2 h)
 have HP:=hideK (fun n W hn=>readPath_any s (rd s (rt s (rd s 0).2.1).2.1).2.1 n W hs2 hn)
 rw[num_all]at H1 H3
 rw[text_all]at H2
 have HNO:=hideK (inner_no (s:=s))
 have HPA:=hideK (inner_path (s:=s))
 have HYE:=hideK (fun q=>inner_yes (s:=s) (q:=q))
 change Hid (∀ W,HH W->_) at H1 H2 H3
 unfold innerOk at HNO HPA HYE
 generalize innerR s=R at HNO HPA HYE ⊢
 generalize rd s (rt s (rd s 0).2.1).2.1=x3 at H3 HP HNO HPA HYE
 generalize rt s (rd s 0).2.1=x2 at H2 H3 HNO HPA HYE
 generalize rd s 0=x1 at H1 H2 HNO HPA HYE
 obtain⟨i,p1,c1⟩:=x1
 obtain⟨t,p2,c2⟩:=x2
 obtain⟨n,p3,c3⟩:=x3
 dsimp only at H1 H2 H3 HP HNO HPA HYE
 clear hh
 go_enter Tryz.func127,Tryz.ntmps127
 go_wp2_with fail
 have C0:=hideK ((Cx.nil w).new (.cells #[.int .i64 0,.string ⟨#[]⟩,.slice none 0 0] 130))
 generalize w.alloc (.cells #[.int .i64 0,.string ⟨#[]⟩,.slice none 0 0] 130)=W0 at C0 ⊢
 refine(H1.out _ (HHW.out _ C0.out.low)).mono ?_
 rintro e v1 ⟨rfl,hb⟩
 have C1:=hideK ((C0.out.call hb).new (.cells #[.int .i64 i,.int .i64 p1,.int .i64 c1] 174))
 clear hb C0
 go_wp2_with fail
 generalize v1.alloc (.cells #[.int .i64 i,.int .i64 p1,.int .i64 c1] 174)=W1 at C1 ⊢
 refine(H2.out _ (HHW.out _ C1.out.low)).mono ?_
 rintro e v2 ⟨rfl,hb⟩
 have C2:=hideK ((C1.out.call hb).new (.cells #[.string t,.int .i64 p2,.int .i64 c2] 170))
 clear hb C1
 go_wp2_with fail
 generalize v2.alloc (.cells #[.string t,.int .i64 p2,.int .i64 c2] 170)=W2 at C2 ⊢
 refine(H3.out _ (HHW.out _ C2.out.low)).mono ?_
 rintro e v3 ⟨rfl,hb⟩
 have C3:=hideK ((C2.out.call hb).new (.cells #[.int .i64 n,.int .i64 p3,.int .i64 c3] 174))
 clear hb C2
 go_upto_region 4 with fail
 generalize v3.alloc (.cells #[.int .i64 n,.int .i64 p3,.int .i64 c3] 174)=W3 at C3 ⊢
 obtain⟨a0,a1,a2⟩:=cells3 (C3.out.get 2 rfl)
 obtain⟨b0,b1,b2⟩:=cells3 (C3.out.get 1 rfl)
 obtain⟨d0,d1,d2⟩:=cells3 (C3.out.get 0 rfl)
 obtain⟨q0,q1,q2⟩:=cells3 (C3.out.get 3 rfl)
 have ff:=fun o=>frozen_of_row W3 w.heap.size o _ _ (C3.out.get 3 rfl)
 have s3:=set3_all (C3.out.get 3 rfl) (.int .i64 0) (.string ⟨#[]⟩) (.slice none 0 0)
 have E3:=hideK (set3_low C3.out.low (Nat.le_refl _) (.int .i64 0) (.string ⟨#[]⟩) (.slice none 0 0))
 generalize v1.heap.size=g1 at C3 a0 a1 a2 ⊢
 generalize v2.heap.size=g2 at C3 b0 b1 b2 ⊢
 generalize v3.heap.size=g3 at C3 d0 d1 d2 ⊢
 by_cases h1:c1=0
 ·have h1':(c1 != 0)=false:=by simp;exact h1
  by_cases h2:c2=0
  ·have h2':(c2 != 0)=false:=by simp;exact h2
   by_cases h3:c3=0
   ·have h3':(c3 != 0)=false:=by simp;exact h3
    have K:=hideK (And.intro h1 (And.intro h2 h3))
    clear h1 h2 h3
    by_cases h4:n<0
    ·have HX:=hideK (HNO.out (fun h=>by omega))
     go_wp2_with fail
     refine bodyPost_ret (v:=.tuple #[.agg #[.int .i64 0,.string ⟨#[]⟩,.slice none 0 0],.bool false]) (by simp[results,Tryz.results127,go_sem,s3.1,s3.2.1,s3.2.2]) rfl ⟨.inr ⟨HX.out,rfl⟩,E3.out⟩
    ·by_cases h5:(20:Int)<n
     ·have HX:=hideK (HNO.out (fun h=>by omega))
      go_wp2_with fail
      refine bodyPost_ret (v:=.tuple #[.agg #[.int .i64 0,.string ⟨#[]⟩,.slice none 0 0],.bool false]) (by simp[results,Tryz.results127,go_sem,s3.1,s3.2.1,s3.2.2]) rfl ⟨.inr ⟨HX.out,rfl⟩,E3.out⟩
     ·have HOK:=hideK (And.intro K.out.1 (And.intro K.out.2.1 (And.intro K.out.2.2 (And.intro (show 0<=n by omega) (show n<=20 by omega)))))
      obtain⟨k,rfl⟩:=Int.eq_ofNat_of_zero_le (show 0<=n by omega)
      have HPK:=hideK (fun W=>HP.out k W (by omega))
      have HPA1:=hideK (HPA.out HOK.out)
      have HYE1:=hideK (fun q=>HYE.out q HOK.out)
      simp only[Int.toNat_natCast]at HPA1 HYE1
      generalize pathR s k p3 []=Q at HPK HPA1 HYE1
      clear HNO HPA HYE HP HOK K E3 s3 h4
      go_wp2_with fail
      refine(HPK.out _).mono ?_
      rintro e v4 ⟨⟨q,v,hq,rfl,ho⟩|⟨hq,c,rfl⟩,hb⟩
      ·obtain⟨ap,cp,rfl,_,_⟩:=ho.strs
       have O:=hideK ho
       have C4:=hideK (C3.out.call hb)
       have HY:=hideK (HYE1.out q hq)
       obtain⟨a0,a1,a2⟩:=cells3 (C4.out.get 2 rfl)
       obtain⟨b0,b1,b2⟩:=cells3 (C4.out.get 1 rfl)
       obtain⟨q0,q1,q2⟩:=cells3 (C4.out.get 3 rfl)
       have ff:=fun o=>frozen_of_row v4 w.heap.size o _ _ (C4.out.get 3 rfl)
       clear ho hb C3 HYE1 HPA1 hq
       by_cases he:q.2=s.size
       ·have he':((q.2:Int) != (s.size:Int))=false:=by simp;omega
        rw[if_pos he]at HY
        have s3:=set3_all (C4.out.get 3 rfl) (.int .i64 i) (.string t) (.slice ap q.1.length cp)
        have E3:=hideK (set3_low C4.out.low (Nat.le_refl _) (.int .i64 i) (.string t) (.slice ap q.1.length cp))
        have O3:Hid (PathIn (((v4.setCell ⟨w.heap.size,0,none⟩ (.int .i64 i)).setCell ⟨w.heap.size,1,none⟩ (.string t)).setCell ⟨w.heap.size,2,none⟩ (.slice ap q.1.length cp)) (.slice ap q.1.length cp) q.1):=(pathIn_own O.out).keeps (KeepsS.set3 (C4.out.get 3 rfl) (by decide) _ _ _)
        go_wp2_with fail
        refine bodyPost_ret (v:=.tuple #[.agg #[.int .i64 i,.string t,.slice ap q.1.length cp],.bool true]) (by simp[results,Tryz.results127,go_sem,s3.1,s3.2.1,s3.2.2]) rfl ⟨.inl ⟨(i,t,q.1),_,HY.out,rfl,O3.out⟩,E3.out⟩
       ·have he':((q.2:Int) != (s.size:Int))=true:=by simp;omega
        rw[if_neg he]at HY
        have s3:=set3_all (C4.out.get 3 rfl) (.int .i64 0) (.string ⟨#[]⟩) (.slice none 0 0)
        have E3:=hideK (set3_low C4.out.low (Nat.le_refl _) (.int .i64 0) (.string ⟨#[]⟩) (.slice none 0 0))
        go_wp2_with fail
        refine bodyPost_ret (v:=.tuple #[.agg #[.int .i64 0,.string ⟨#[]⟩,.slice none 0 0],.bool false]) (by simp[results,Tryz.results127,go_sem,s3.1,s3.2.1,s3.2.2]) rfl ⟨.inr ⟨HY.out,rfl⟩,E3.out⟩
      ·have C4:=hideK (C3.out.call hb)
       have HX:=hideK (HPA1.out hq)
       obtain⟨q0,q1,q2⟩:=cells3 (C4.out.get 3 rfl)
       have ff:=fun o=>frozen_of_row v4 w.heap.size o _ _ (C4.out.get 3 rfl)
       have s3:=set3_all (C4.out.get 3 rfl) (.int .i64 0) (.string ⟨#[]⟩) (.slice none 0 0)
       have E3:=hideK (set3_low C4.out.low (Nat.le_refl _) (.int .i64 0) (.string ⟨#[]⟩) (.slice none 0 0))
       clear hb C3 HYE1 HPA1 hq
       go_wp2_with fail
       refine bodyPost_ret (v:=.tuple #[.agg #[.int .i64 0,.string ⟨#[]⟩,.slice none 0 0],.bool false]) (by simp[results,Tryz.results127,go_sem,s3.1,s3.2.1,s3.2.2]) rfl ⟨.inr ⟨HX.out,rfl⟩,E3.out⟩
   ·have h3':(c3 != 0)=true:=by simp;exact h3
    have HX:=hideK (HNO.out (fun h=>h3 h.2.2.1))
    go_wp2_with fail
    refine bodyPost_ret (v:=.tuple #[.agg #[.int .i64 0,.string ⟨#[]⟩,.slice none 0 0],.bool false]) (by simp[results,Tryz.results127,go_sem,s3.1,s3.2.1,s3.2.2]) rfl ⟨.inr ⟨HX.out,rfl⟩,E3.out⟩
  ·have h2':(c2 != 0)=true:=by simp;exact h2
   have HX:=hideK (HNO.out (fun h=>h2 h.2.1))
   go_wp2_with fail
   refine bodyPost_ret (v:=.tuple #[.agg #[.int .i64 0,.string ⟨#[]⟩,.slice none 0 0],.bool false]) (by simp[results,Tryz.results127,go_sem,s3.1,s3.2.1,s3.2.2]) rfl ⟨.inr ⟨HX.out,rfl⟩,E3.out⟩
 ·have h1':(c1 != 0)=true:=by simp;exact h1
  have HX:=hideK (HNO.out (fun h=>h1 h.1))
  go_wp2_with fail
  refine bodyPost_ret (v:=.tuple #[.agg #[.int .i64 0,.string ⟨#[]⟩,.slice none 0 0],.bool false]) (by simp[results,Tryz.results127,go_sem,s3.1,s3.2.1,s3.2.2]) rfl ⟨.inr ⟨HX.out,rfl⟩,E3.out⟩
end Go.Proofs.YtikiihjabbmkcaaGreatDoor.Kp


namespace Go.Proofs.YtikiihjabbmkcaaGreatDoor.Kp
open Go.RowKit
open Gn (rd rt)
open Ls (HH hh_keep num_all text_all cells3 set3_all set_j3)
theorem rec_no {s:ByteArray} {e:Nat} (h:¬((rt s e).2.2=0/\usC (rt s e).1=0)):recR s e=none:=if_neg h
theorem rec_yes {s:ByteArray} {e:Nat} (h:(rt s e).2.2=0/\usC (rt s e).1=0):recR s e=(innerR (usT (rt s e).1)).map (fun r=>(r,(rt s e).2.1)):=if_pos h
theorem usT_size (s:ByteArray) (h:s.size<=8000):(usT s).size<=8000:=by
 unfold usT
 split
 ·exact Nat.zero_le _
 ·split
  ·exact Nat.zero_le _
  ·split
   ·rw[ByteArray.size_extract];omega
   ·exact Nat.zero_le _
theorem rt_size8 (s:ByteArray) (a:Int):(rt s a).1.size<=8000:=by
 by_cases h:(rt s a).2.2=0
 ·exact(rt_more s a h).2.2.2
 ·rw[(Gn.rt_codes s a h).1]
  exact Nat.zero_le _
theorem pathIn_drew {W:World} {v:Value} {p:List ByteArray} (h:PathIn W v p):PathIn W.drew v p:=h.keeps (fun _ _ e=>e)
def RecOut (R:Option (Rec × Nat)) (r:Ending) (w':World):Prop :=
 (∃ x v,R=some x/\r=.returned (.tuple #[.agg #[.int .i64 x.1.1,.string x.1.2.1,v],.int .i64 x.2,.bool true])/\PathIn w' v x.1.2.2) ∨
 (R=none/\∃ n:Int,r=.returned (.tuple #[.agg #[.int .i64 0,.string ⟨#[]⟩,.slice none 0 0],.int .i64 n,.bool false]))
theorem readRecord_any (s:ByteArray) (e:Nat) (w:World) (hs:s.size<=1048576) (hh:HH w) :
  Calls Tryz.prog 84 #[.string s,.int .i64 e] w fun r w' =>
   RecOut (recR s e) r w'/\Below w.heap.size w w':=by
 have HHW:Hid (∀ W,Below w.heap.size w W->HH W):=fun W h=>hh_keep hh h
 have hs2:s.size<=maxLen:=by unfold maxLen;omega
 have H1:=hideK (fun W h=>Gn.text_impl s e W hs2 h)
 have H2:=hideK (fun W=>Se.unseal_impl (rt s e).1 W (by have:=rt_size8 s e;unfold maxLen;omega))
 have H3:=hideK (fun W h=>readInner_any (usT (rt s e).1) W (by have:=usT_size _ (rt_size8 s e);omega) h)
 rw[text_all]at H1
 simp only[unseal_all]at H2
 have HNO:=hideK (rec_no (s:=s) (e:=e))
 have HYE:=hideK (rec_yes (s:=s) (e:=e))
 change Hid (∀ W,HH W->_) at H1 H3
 generalize recR s e=R at HNO HYE ⊢
 generalize rt s e=x1 at H1 H2 H3 HNO HYE
 obtain⟨t,p1,c1⟩:=x1
 dsimp only at H1 H2 H3 HNO HYE
 generalize usC t=c2 at H2 HNO HYE
 generalize usT t=u at H2 H3 HYE
 generalize innerR u=I at H3 HYE
 clear hh
 go_enter Tryz.func84,Tryz.ntmps84
 go_wp2_with fail
 have C0:=hideK ((Cx.nil w).new (.cells #[.int .i64 0,.string ⟨#[]⟩,.slice none 0 0] 130))
 generalize w.alloc (.cells #[.int .i64 0,.string ⟨#[]⟩,.slice none 0 0] 130)=W0 at C0 ⊢
 refine(H1.out _ (HHW.out _ C0.out.low)).mono ?_
 rintro e v1 ⟨rfl,hb⟩
 have C1:=hideK ((C0.out.call hb).new (.cells #[.string t,.int .i64 p1,.int .i64 c1] 170))
 clear hb C0
 go_wp2_with fail
 generalize v1.alloc (.cells #[.string t,.int .i64 p1,.int .i64 c1] 170)=W1 at C1 ⊢
 refine(H2.out _).mono ?_
 rintro e v2 ⟨rfl,hb⟩
 have C2:=hideK ((C1.out.call hb).new (.cells #[.string u,.int .i64 0,.int .i64 c2] 170))
 clear hb C1
 go_upto_region 3 with fail
 generalize v2.alloc (.cells #[.string u,.int .i64 0,.int .i64 c2] 170)=W2 at C2 ⊢
 obtain⟨a0,a1,a2⟩:=cells3 (C2.out.get 1 rfl)
 obtain⟨b0,b1,b2⟩:=cells3 (C2.out.get 0 rfl)
 obtain⟨q0,q1,q2⟩:=cells3 (C2.out.get 2 rfl)
 have ff:=fun o=>frozen_of_row W2 w.heap.size o _ _ (C2.out.get 2 rfl)
 have s3:=set3_all (C2.out.get 2 rfl) (.int .i64 0) (.string ⟨#[]⟩) (.slice none 0 0)
 have E3:=hideK (set3_low C2.out.low (Nat.le_refl _) (.int .i64 0) (.string ⟨#[]⟩) (.slice none 0 0))
 generalize v1.heap.size=g1 at C2 a0 a1 a2 ⊢
 generalize v2.heap.size=g2 at C2 b0 b1 b2 ⊢
 by_cases h1:c1=0
 ·have h1':(c1 != 0)=false:=by simp;exact h1
  by_cases h2:c2=0
  ·have h2':(c2 != 0)=false:=by simp;exact h2
   have HY:=hideK (HYE.out ⟨h1,h2⟩)
   clear h1 h2 HNO HYE E3 s3
   go_wp2_with fail
   refine(H3.out _ (HHW.out _ C2.out.low)).mono ?_
   rintro e v3 ⟨⟨x,v,hx,rfl,ho⟩|⟨hx,rfl⟩,hb⟩
   ·obtain⟨ap,cp,rfl,_,_⟩:=ho.strs
    have C3:=hideK ((C2.out.call hb).new (.cells #[.int .i64 x.1,.string x.2.1,.slice ap x.2.2.length cp] 130))
    have O3:=hideK (ho.keeps (KeepsS.below ((Below.refl _ v3).alloc (Nat.le_refl _) (.cells #[.int .i64 x.1,.string x.2.1,.slice ap x.2.2.length cp] 130))))
    rw[hx]at HY
    clear hb C2 ho hx
    obtain⟨i,t2,p⟩:=x
    dsimp only at C3 O3 HY ⊢
    go_upto_region 6 with fail
    generalize v3.alloc (.cells #[.int .i64 i,.string t2,.slice ap p.length cp] 130)=W3 at C3 O3 ⊢
    obtain⟨d0,d1,d2⟩:=cells3 (C3.out.get 0 rfl)
    obtain⟨a0,a1,a2⟩:=cells3 (C3.out.get 2 rfl)
    obtain⟨q0,q1,q2⟩:=cells3 (C3.out.get 3 rfl)
    have ff:=fun o=>frozen_of_row W3 w.heap.size o _ _ (C3.out.get 3 rfl)
    have n1:=ty_ne (C3.out.get 3 rfl) (C3.out.get 2 rfl) (by decide)
    have n2:¬g1=w.heap.size:=fun h=>n1 h.symm
    have s3:=set3_all (C3.out.get 3 rfl) (.int .i64 i) (.string t2) (.slice ap p.length cp)
    have E3:=hideK (set3_low C3.out.low (Nat.le_refl _) (.int .i64 i) (.string t2) (.slice ap p.length cp)).drew
    have O4:Hid (PathIn (((W3.setCell ⟨w.heap.size,0,none⟩ (.int .i64 i)).setCell ⟨w.heap.size,1,none⟩ (.string t2)).setCell ⟨w.heap.size,2,none⟩ (.slice ap p.length cp)).drew (.slice ap p.length cp) p):=pathIn_drew (PathIn.keeps O3.out (KeepsS.set3 (C3.out.get 3 rfl) (by decide) _ _ _))
    go_region
    all_goals (
     go_wp2_with fail
     exact bodyPost_ret (v:=.tuple #[.agg #[.int .i64 i,.string t2,.slice ap p.length cp],.int .i64 p1,.bool true]) (by simp[results,Tryz.results84,go_sem,s3.1,s3.2.1,s3.2.2]) rfl ⟨.inl ⟨((i,t2,p),p1),_,HY.out,rfl,O4.out⟩,E3.out⟩)
   ·have C3:=hideK ((C2.out.call hb).new (.cells #[.int .i64 0,.string ⟨#[]⟩,.slice none 0 0] 130))
    rw[hx]at HY
    clear hb C2 hx
    go_upto_region 6 with fail
    generalize v3.alloc (.cells #[.int .i64 0,.string ⟨#[]⟩,.slice none 0 0] 130)=W3 at C3 ⊢
    obtain⟨d0,d1,d2⟩:=cells3 (C3.out.get 0 rfl)
    obtain⟨a0,a1,a2⟩:=cells3 (C3.out.get 2 rfl)
    obtain⟨q0,q1,q2⟩:=cells3 (C3.out.get 3 rfl)
    have ff:=fun o=>frozen_of_row W3 w.heap.size o _ _ (C3.out.get 3 rfl)
    have n1:=ty_ne (C3.out.get 3 rfl) (C3.out.get 2 rfl) (by decide)
    have n2:¬g1=w.heap.size:=fun h=>n1 h.symm
    have s3:=set3_all (C3.out.get 3 rfl) (.int .i64 0) (.string ⟨#[]⟩) (.slice none 0 0)
    have E3:=hideK (set3_low C3.out.low (Nat.le_refl _) (.int .i64 0) (.string ⟨#[]⟩) (.slice none 0 0)).drew
    go_region
    all_goals (
     go_wp2_with fail
     exact bodyPost_ret (v:=.tuple #[.agg #[.int .i64 0,.string ⟨#[]⟩,.slice none 0 0],.int .i64 p1,.bool false]) (by simp[results,Tryz.results84,go_sem,s3.1,s3.2.1,s3.2.2]) rfl ⟨.inr ⟨HY.out,p1,rfl⟩,E3.out⟩)
  ·have h2':(c2 != 0)=true:=by simp;exact h2
   have HX:=hideK (HNO.out (fun h=>h2 h.2))
   go_wp2_with fail
   exact bodyPost_ret (v:=.tuple #[.agg #[.int .i64 0,.string ⟨#[]⟩,.slice none 0 0],.int .i64 0,.bool false]) (by simp[results,Tryz.results84,go_sem,s3.1,s3.2.1,s3.2.2]) rfl ⟨.inr ⟨HX.out,0,rfl⟩,E3.out⟩
 ·have h1':(c1 != 0)=true:=by simp;exact h1
  have HX:=hideK (HNO.out (fun h=>h1 h.1))
  go_wp2_with fail
  exact bodyPost_ret (v:=.tuple #[.agg #[.int .i64 0,.string ⟨#[]⟩,.slice none 0 0],.int .i64 0,.bool false]) (by simp[results,Tryz.results84,go_sem,s3.1,s3.2.1,s3.2.2]) rfl ⟨.inr ⟨HX.out,0,rfl⟩,E3.out⟩
end Go.Proofs.YtikiihjabbmkcaaGreatDoor.Kp

