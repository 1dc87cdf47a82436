/- Texts put together: HuDepths, HuImpl, HuCounts, HuLeastT, HuJoinP, HuJoin, AppKeep, HuLens, HuSpec. -/
import Derived.Test.YtjfdllgodijibaaGreatDoorWz30
import Derived.Deep.QuietTactic
import Derived.BigQuiet
import Derived.Test.YtjfdllgodijibaaGreatDoorWz29
import Derived.BigRegion
import Derived.WalkSmall
set_option maxRecDepth 100000
set_option maxHeartbeats 8000000
/- The walk of depthsOf. -/
namespace Go.Proofs.YtjfdllgodijibaaGreatDoor.Hf
open Go.RowKit
open In (IsI irow Ints made_ints)
end Go.Proofs.YtjfdllgodijibaaGreatDoor.Hf


/- The walk of impl.LengthsOf. -/
namespace Go.Proofs.YtjfdllgodijibaaGreatDoor.Hf
open Go.RowKit
open In (IsI irow Ints OwnI)
open Bi (within within_yes within_of)
def sumAt (W:World):Value->Nat
 |.slice (some ⟨b,off,_⟩) n _=>((List.range n).map fun j=>match W.cell? ⟨b,off+j,none⟩ with|some (.int _ x)=>x.toNat|_=>0).sum
 |_=>0
theorem sumAt_ints {W : World} {B n q : Nat} {x : Option Addr} {c : List Nat} (h : Ints W B x (up c)) (hn : c.length = n) : sumAt W (.slice x n q) = c.sum := by
  rcases h with h0 | ⟨b, off, rfl, _, hc⟩
  · have hc0 : c = [] := by
      have := congrArg List.length h0
      rw [up_length] at this
      exact List.eq_nil_of_length_eq_zero this
    subst hc0
    subst hn
    cases x <;> rfl
  · have e : ((List.range n).map fun j => match W.cell? ⟨b, off + j, none⟩ with | some (.int _ x) => x.toNat | _ => 0) = c := by
     apply List.ext_getElem
     · simp [hn]
     · intro j h1 h2
       rw [List.getElem_map, List.getElem_range, hc j (by rw [up_length]; exact h2), up_at c j h2, List.getD_eq_getElem?_getD, List.getElem?_eq_getElem h2]
       simp
    exact congrArg List.sum e
theorem own_of {W:World} {g base n:Nat} {l:List Int} (h:IsI W g 2 l) (hg:base<=g) (hn:l.length=n) (hm:n<=1048576):OwnI W base (.slice (some ⟨g,0,none⟩) n n) l:=by
 subst hn
 refine⟨by simp,.inr ⟨g,l.length,irow l,rfl,hg,h,Nat.le_refl _,by unfold maxLen;omega,by rw[In.irow_size,Nat.mul_one],?_⟩⟩
 unfold irow
 rw[List.take_of_length_le (by simp)]
theorem within_okay (d:List Nat) (h:d.length<=257):within (up d) 12=okay d:=by
 cases ho:okay d with
 |true =>
  refine within_of (by rw[up_length];exact h) fun x hx=>?_
  obtain⟨y,hy,rfl⟩:=List.mem_map.1 hx
  have:=of_decide_eq_true (List.all_eq_true.1 ho y hy)
  omega
 |false =>
  refine Bool.eq_false_iff.2 fun hw=>?_
  have:=(within_yes hw).2
  rw[Bool.eq_false_iff]at ho
  refine ho (List.all_eq_true.2 fun y hy=>decide_eq_true ?_)
  have:=(this (y:Int) (List.mem_map.2 ⟨y,hy,rfl⟩)).2
  omega
def nats (l:List Int):List Nat:=l.map Int.toNat
def lensR (l:List Int):List Int:=if within l 10000=true then up (lenOf (nats l)) else []
theorem flat_small (c:List Nat) (h:∀ x∈c,x<=10000):∀ x∈flat c,x<=10000:=by
 intro x hx
 obtain⟨y,hy,rfl⟩:=List.mem_map.1 hx
 have:=h y hy
 split<;>omega
end Go.Proofs.YtjfdllgodijibaaGreatDoor.Hf


/- The walk of l04Counts. -/
namespace Go.Proofs.YtjfdllgodijibaaGreatDoor.Hf
open Go.RowKit
open In (IsI irow Ints OwnI)
open Bi (within within_yes within_of within_long within_bad)
end Go.Proofs.YtjfdllgodijibaaGreatDoor.Hf


namespace Go.Proofs.YtjfdllgodijibaaGreatDoor.Hf
open Go.RowKit
theorem leastS_any (g n cap a:Nat) (but:Int) (m:List MT) (w:World) (hn:m.length=n) (h257:n<=257) (hbut:∀ i,i<n->((i:Int)=but↔i=a)) (hc:∀ i (h:i<m.length),w.cell? ⟨g,i*2,none⟩=some (.int .i64 (m[i].1.1:Nat))) :
  Calls Tryz.prog 103 #[.slice (some ⟨g,0,none⟩) n cap,.int .i64 but] w fun e w'=>e=.returned (.int .i64 (oi (lb (mt m) a n)))/\∃ d,w'=w.drewN d:=by
 have HN:=hideH hn
 have HB:=hideH hbut
 have HC:=hideH hc
 have HL:=hideH (lb_lt (mt m) a)
 clear hn hbut hc
 go_enter Tryz.func103,Tryz.ntmps103
 go_wp2_with fail
 go_loopw [6,5] (fun iv kv wr=>∃ (i:Nat) (k:Int),iv=.int .i64 i/\kv=.int .i64 k/\i<=n/\k=oi (lb (mt m) a i)/\∃ d,wr=w.drewN d) (fun iv _ _=>n-(intOf iv).toNat)
 case atStart=>exact⟨0,-1,rfl,rfl,Nat.zero_le _,rfl,0,rfl⟩
 case round =>
  obtain⟨i,k,rfl,rfl,hi,hk,d,hw⟩:=hrel
  subst wr
  have HK:=hideH hk
  clear hk
  by_cases hlt:i<n
  ·have hi':i<m.length:=by rw[HN.out];exact hlt
   by_cases hia:i=a
   ·obtain rfl:=(HB.out i hlt).2 hia
    have HF:Hid (k=oi (lb (mt m) a (i+1))):=by
     unfold Hid
     rw[lb,if_pos hia]
     exact HK.out
    clear hia HB HK HL HC
    go_wp2_with fail
    go_big_quiet (fail)
    go_wp2_with fail
    go_roundw
    case rel=>exact⟨i+1,k,by go_num,rfl,by omega,HF.out,_,rfl⟩
    case measure=>simp[intOf];omega
   ·have hne:¬((i:Int)=but):=fun e=>hia ((HB.out i hlt).1 e)
    have hq:((i:Int) != but)=true:=by simp;exact hne
    clear hne
    have HIA:=hideH hia
    clear hia
    cases hlb:lb (mt m) a i with
    |none =>
     have HF:=hideH (lb_none hlb HIA.out)
     have hkn:k<0:=by rw[HK.out,hlb];decide
     have hkd:decide (k<0)=true:=decide_eq_true hkn
     clear HK hlb
     go_wp2_with fail
     go_big_quiet (fail)
     go_wp2_with fail
     go_roundw
     case rel=>exact⟨i+1,i,by go_num,rfl,by omega,by rw[HF.out];rfl,_,rfl⟩
     case measure=>simp[intOf];omega
    |some kk =>
     have hkl:=HL.out i kk hlb
     have hk':kk<m.length:=by rw[HN.out];omega
     have HF:=hideH (lb_some hlb HIA.out)
     rw[wt_mt m i hi',wt_mt m kk hk']at HF
     obtain rfl:k=(kk:Int):=by rw[HK.out,hlb];rfl
     have ci:=HC.out i hi'
     have ck:=HC.out kk hk'
     generalize m[i].1.1=x at ci HF
     generalize m[kk].1.1=y at ck HF
     have hkd:decide ((kk:Int)<0)=false:=decide_eq_false (by omega)
     have hin:(i:Int)<(n:Int):=by omega
     have hkn:(kk:Int)<(n:Int):=by omega
     clear HK hlb hi' hk'
     by_cases hxy:x<y
     ·have hxy':(x:Int)<(y:Int):=by omega
      rw[if_pos hxy]at HF
      go_wp2_with fail
      go_big_quiet (fail)
      go_wp2_with fail
      go_roundw
      case rel=>exact⟨i+1,i,by go_num,rfl,by omega,by rw[HF.out];rfl,_,rfl⟩
      case measure=>simp[intOf];omega
     ·have hxy':decide ((x:Int)<(y:Int))=false:=by simp;omega
      rw[if_neg hxy]at HF
      go_wp2_with fail
      go_big_quiet (fail)
      go_wp2_with fail
      go_roundw
      case rel=>exact⟨i+1,kk,by go_num,rfl,by omega,by rw[HF.out];rfl,_,rfl⟩
      case measure=>simp[intOf];omega
  ·obtain rfl:i=n:=by omega
   go_wp2_with fail
   go_ret
   exact⟨by rw[HK.out];rfl,_,rfl⟩
end Go.Proofs.YtjfdllgodijibaaGreatDoor.Hf


/- Plain mathematics for l04Join: all but two, in their order. -/
namespace Go.Proofs.YtjfdllgodijibaaGreatDoor.Hf
open Go.RowKit
theorem erase_snoc {α:Type} (X:List α) (y:α) (k:Nat):(X++[y]).eraseIdx k=if k<X.length then X.eraseIdx k++[y] else if k=X.length then X else X++[y]:=by
 by_cases h:k<X.length
 ·rw[if_pos h,List.eraseIdx_append_of_lt_length h]
 ·rw[if_neg h,List.eraseIdx_append_of_length_le (by omega)]
  by_cases h2:k=X.length
  ·rw[if_pos h2,h2,Nat.sub_self]
   simp
  ·rw[if_neg h2,List.eraseIdx_of_length_le (by simp;omega)]
def midJ (m:List MT) (a b i:Nat):List MT:=((m.take i).eraseIdx a).eraseIdx b
theorem take_snoc (m:List MT) (i:Nat) (hi:i<m.length):m.take (i+1)=m.take i++[m[i]]:=by
 rw[List.take_add_one,List.getElem?_eq_getElem hi]
 rfl
theorem midJ_step (m:List MT) (a b i:Nat) (hi:i<m.length):midJ m a b (i+1)=if i=a∨i=shift a b then midJ m a b i else midJ m a b i++[m[i]]:=by
 have hl:(m.take i).length=i:=by rw[List.length_take];omega
 unfold midJ
 rw[take_snoc m i hi]
 generalize m[i]=y
 generalize m.take i=X at hl ⊢
 rw[erase_snoc,hl]
 by_cases h1:a<i
 ·rw[if_pos h1,erase_snoc]
  have hle:(X.eraseIdx a).length=i-1:=by rw[List.length_eraseIdx,if_pos (by omega),hl]
  rw[hle]
  by_cases h2:b<i-1
  ·rw[if_pos h2,if_neg]
   unfold shift
   split<;>omega
  ·rw[if_neg h2,List.eraseIdx_of_length_le (l:=X.eraseIdx a) (k:=b) (by omega)]
   by_cases h3:b=i-1
   ·rw[if_pos h3,if_pos]
    unfold shift
    rw[if_neg (by omega)]
    omega
   ·rw[if_neg h3,if_neg]
    unfold shift
    rw[if_neg (by omega)]
    omega
 ·rw[if_neg h1,List.eraseIdx_of_length_le (l:=X) (k:=a) (by omega)]
  by_cases h2:a=i
  ·rw[if_pos h2,if_pos (.inl h2.symm)]
  ·rw[if_neg h2,erase_snoc,hl]
   by_cases h3:b<i
   ·rw[if_pos h3,if_neg]
    unfold shift
    rw[if_pos (by omega)]
    omega
   ·rw[if_neg h3,List.eraseIdx_of_length_le (l:=X) (k:=b) (by omega)]
    by_cases h4:b=i
    ·rw[if_pos h4,if_pos]
     unfold shift
     rw[if_pos (by omega)]
     omega
    ·rw[if_neg h4,if_neg]
     unfold shift
     split<;>omega
theorem midJ_skip (m:List MT) (a b i:Nat) (hi:i<m.length) (h:i=a∨i=shift a b):midJ m a b (i+1)=midJ m a b i:=by
 rw[midJ_step m a b i hi,if_pos h]
theorem midJ_keep (m:List MT) (a b i:Nat) (hi:i<m.length) (h:¬i=a) (h':¬i=shift a b):midJ m a b (i+1)=midJ m a b i++[m[i]]:=by
 rw[midJ_step m a b i hi,if_neg (by omega)]
theorem midJ_length (m:List MT) (a b i:Nat):(midJ m a b i).length<=i:=by
 unfold midJ
 rw[List.length_eraseIdx,List.length_eraseIdx,List.length_take]
 split<;>split<;>omega
theorem midJ_mem (m:List MT) (a b i:Nat) (x:MT) (h:x∈midJ m a b i):x∈m :=
 List.mem_of_mem_take (List.mem_of_mem_eraseIdx (List.mem_of_mem_eraseIdx h))
theorem midJ_all (m:List MT) (a b:Nat):midJ m a b m.length=(m.eraseIdx a).eraseIdx b:=by
 unfold midJ
 rw[List.take_length]
theorem erase_at (m:List MT) (a b:Nat):(m.eraseIdx a)[b]? = m[shift a b]?:=by
 unfold shift
 split
 ·rw[List.getElem?_eraseIdx_of_lt (by assumption)]
 ·rw[List.getElem?_eraseIdx_of_ge (by omega)]
theorem lb_first (l:List Tree) (n:Nat) (hn:l.length=n) (h0:0<n):lb l n n=some (least l n):=by
 have h:=lb_low l n n (Nat.le_refl _)
 rw[if_neg (by omega),List.eraseIdx_of_length_le (by omega)]at h
 rw[h]
 have:=least_le l n
 unfold shift
 rw[if_pos (by omega)]
theorem incs_two (d s t:List Nat):incs d (s++t)=incs (incs d s) t:=by
 unfold incs
 rw[List.foldl_append]
structure Two (m:List MT) (n a b:Nat) (y1 y2:MT):Prop where
 an:a<n+2
 bn:b<n+2
 ne:¬a=b
 fa:lb (mt m) (n+2) (n+2)=some a
 fb:lb (mt m) a (n+2)=some b
 at1:m[a]? = some y1
 at2:m[b]? = some y2
 jn:∃ b',b=shift a b'/\mt (midJ m a b' (n+2))++[(y1.1.1+y2.1.1,y1.1.2++y2.1.2)]=join (mt m)/\y1.1=first (mt m)/\y2.1=second (mt m)
theorem two_of (m:List MT) (n:Nat) (hn:m.length=n+2):∃ a b y1 y2,Two m n a b y1 y2:=by
 obtain⟨y1,hy1,_,hf1,hm1,hl1,_⟩:=taken m (n+1) hn
 obtain⟨y2,hy2,_,hf2,hm2,hl2,_⟩:=taken (m.eraseIdx (least (mt m) (n+1+1))) n hl1
 have hle:=least_le (mt m) (n+2)
 have hle2:=least_le (mt (m.eraseIdx (least (mt m) (n+2)))) (n+1)
 have he:(mt m).eraseIdx (least (mt m) (n+2))=mt (m.eraseIdx (least (mt m) (n+2))):=by
  unfold mt
  rw[erase_map]
 refine⟨least (mt m) (n+2),shift (least (mt m) (n+2)) (least (mt (m.eraseIdx (least (mt m) (n+2)))) (n+1)),y1,y2,by omega,?_,?_,lb_first _ _ (by rw[mt_length];exact hn) (by omega),?_,hy1,?_,_,rfl,?_,hf1,?_⟩
 ·unfold shift
  split<;>omega
 ·unfold shift
  split<;>omega
 ·have:=lb_all (mt m) (least (mt m) (n+2)) (n+2) (by omega) (by omega)
  rw[this,he]
  rfl
 ·rw[<-erase_at]
  exact hy2
 ·rw[<-hn,midJ_all,hn,hm2,hm1,hf1,hf2,hm1]
  rfl
 ·rw[hf2,hm1]
  rfl
end Go.Proofs.YtjfdllgodijibaaGreatDoor.Hf


namespace Go.Proofs.YtjfdllgodijibaaGreatDoor.Hf
open Go.RowKit
open In (IsI irow Ints)
open Ap (Own0 wpList_append_own0)
theorem Tryz.infoTreeS:(Tryz.prog.info? 131).map (fun i=>(i.zero,i.size,i.bytes))=some (some (.agg #[.int .i64 0,.slice none 0 0]),2,32):=by kernel_rfl
theorem leastS_at (g n cap a:Nat) (but:Int) (k:Nat) (m:List MT) (cur:Array Value) (t:TypeId) (w W:World) (hB:Below w.heap.size w W) (hb:w.heap[g]? = some (.cells cur t (0,0))) (ht:cur.toList.take (m.length*2)=cells m) (hn:m.length=n) (h257:n<=257) (hbut:∀ i,i<n->((i:Int)=but↔i=a)) (hk:lb (mt m) a n=some k) :
  Calls Tryz.prog 103 #[.slice (some ⟨g,0,none⟩) n cap,.int .i64 but] W fun e w'=>e=.returned (.int .i64 (k:Nat))/\Below w.heap.size w w':=by
 have:=leastS_any g n cap a but m W hn h257 hbut (fun i hi=>(row_at ((hB.block g (lt_row hb)).trans hb) ht i hi).1)
 rw[hk]at this
 refine this.mono ?_
 rintro e w' ⟨rfl,d,rfl⟩
 exact⟨rfl,below_drewN hB d⟩
theorem Wr.drew {g gl:Nat} {a b:World} (h:Wr g gl a b):Wr g gl a b.drew:=⟨h.os,h.tape,h.output,h.size,h.block⟩
theorem OwnT.mono {W:World} {e:TypeId} {base base':Nat} {v:Value} {m:List MT} (h:OwnT W e base v m) (hb:base'<=base):OwnT W e base' v m:=by
 obtain⟨hl,h⟩:=h
 refine⟨hl,?_⟩
 rcases h with h|⟨g,cap,cur,hv,hg,rest⟩
 ·exact .inl h
 ·exact .inr ⟨g,cap,cur,hv,Nat.le_trans hb hg,rest⟩
theorem Wr.low {gl:Nat} {a b c:World} (h:Below a.heap.size a b) (k:Wr gl gl b c):Wr gl gl a c :=
 ⟨k.os.trans h.os,k.tape.trans h.tape,k.output.trans h.output,Nat.le_trans h.size k.size,fun i hi h1 h2=>(k.block i (Nat.lt_of_lt_of_le hi h.size) h1 h2).trans (h.block i hi)⟩
theorem joinS_any (g gl n cap nl capl:Nat) (m:List MT) (d:List Nat) (cur:Array Value) (w:World) (hn:m.length=n+2) (h257:n+2<=257) (hb:w.heap[g]? = some (.cells cur 131 (0,0))) (ht:cur.toList.take (m.length*2)=cells m)
  (hy:Syms w m) (hsl:∀ x∈m,x.1.2.length<=257) (hne:∀ x∈m,0<x.1.2.length) (hlt:∀ x∈m,∀ s∈x.1.2,s<d.length) (hd:IsI w gl 2 (up d)) (hdn:d.length=nl) (hdm:∀ j,d.getD j 0<=3000000) (hww:(first (mt m)).1+(second (mt m)).1<=2570000) :
  Calls Tryz.prog 100 #[.slice (some ⟨g,0,none⟩) (n+2) cap,.slice (some ⟨gl,0,none⟩) nl capl] w fun e w' =>
   ∃ v m',e=.returned v/\mt m'=join (mt m)/\OwnT w' 131 w.heap.size v m'/\Syms w' m'/\IsI w' gl 2 (up (incs (incs d (first (mt m)).2) (second (mt m)).2))/\Wr gl gl w w':=by
 obtain⟨i0,hi,hz0,hz1,hz2⟩:=info_parts Tryz.infoInt
 obtain⟨j0,hji,hj0,hj1,hj2⟩:=info_parts Tryz.infoTreeS
 obtain⟨a,b,y1,y2,T⟩:=two_of m n hn
 obtain⟨b',hbb,hjn,hf1,hf2⟩:=T.jn
 have an:=T.an
 have bn:=T.bn
 have hgl:g≠gl:=by
  rintro rfl
  have:=hd
  unfold IsI at this
  rw[hb]at this
  simp at this
 have HL1:=hideH (fun (W:World) (hB:Below w.heap.size w W)=>leastS_at g (n+2) cap (n+2) (-1) a m cur _ w W hB hb ht hn h257 (fun i hi=>⟨fun h=>by omega,fun h=>by omega⟩) T.fa)
 have HL2:=hideH (fun (W:World) (hB:Below w.heap.size w W)=>leastS_at g (n+2) cap a (a:Int) b m cur _ w W hB hb ht hn h257 (fun i hi=>by omega) T.fb)
 have hal:a<m.length:=by omega
 have hbl:b<m.length:=by omega
 have e1:m[a]=y1:=by have:=T.at1;rw[List.getElem?_eq_getElem hal]at this;exact Option.some.inj this
 have e2:m[b]=y2:=by have:=T.at2;rw[List.getElem?_eq_getElem hbl]at this;exact Option.some.inj this
 have hm1:y1∈m:=by rw[<-e1];exact List.getElem_mem hal
 have hm2:y2∈m:=by rw[<-e2];exact List.getElem_mem hbl
 have HR1:=hideH (fun (W:World) (h:W.heap[g]? = some (.cells cur 131 (0,0)))=>row_at (m:=m) h ht a hal)
 have HR2:=hideH (fun (W:World) (h:W.heap[g]? = some (.cells cur 131 (0,0)))=>row_at (m:=m) h ht b hbl)
 have HRI:=hideH (fun (W:World) (h:W.heap[g]? = some (.cells cur 131 (0,0)))=>row_at (m:=m) h ht)
 rw[e1]at HR1
 rw[e2]at HR2
 have HY1:=hy y1 hm1
 have HY2:=hy y2 hm2
 have hs1:=hsl y1 hm1
 have hs2:=hsl y2 hm2
 have hn1:=hne y1 hm1
 have HLT:Hid (∀ s∈y1.1.2++y2.1.2,s<d.length):=by
  intro s hs
  rcases List.mem_append.1 hs with hs|hs
  ·exact hlt y1 hm1 s hs
  ·exact hlt y2 hm2 s hs
 have hwl:y1.1.1+y2.1.1<=2570000:=by rw[hf1,hf2];exact hww
 have HINC:Hid (incs (incs d (first (mt m)).2) (second (mt m)).2=incs d (y1.1.2++y2.1.2)):=by
  unfold Hid
  rw[<-hf1,<-hf2,incs_two]
 have HJN:=hideH hjn
 have HSK:=hideH (midJ_skip m a b')
 have HKP:=hideH (midJ_keep m a b')
 rw[<-hbb]at HSK HKP
 have HML:=hideH (midJ_length m a b')
 have HMM:=hideH (midJ_mem m a b')
 have HN:=hideH hn
 have HY:=hideH hy
 have HB:=hideH hb
 have HD:=hideH hd
 have HDM:=hideH hdm
 have HDN:=hideH hdn
 have hgz:=lt_row hb
 have hlz:=hd.lt
 have hne2:=T.ne
 rw[HINC.out]
 clear hjn hbb e1 e2 hal hbl hm1 hm2 hsl hne hlt hdm hdn hd hb ht hy hn hww hf1 hf2 T HINC
 obtain⟨⟨w1',s1⟩,v1⟩:=y1
 obtain⟨⟨w2',s2⟩,v2⟩:=y2
 simp only at HR1 HR2 HY1 HY2 hs1 hs2 hn1 HLT hwl HJN ⊢
 obtain⟨g1,c1,cu1,rfl,hh1,hq1,hc1⟩:=HY1
 obtain⟨g2,c2,cu2,rfl,hh2,hq2,hc2⟩:=HY2
 have HNA:=hideH (fun (W:World) (h:Keeps w W)=>Sym.news (W:=W) (g:=g1) (s:=s1) fun j hj=>(cell_of_row W g1 j _ _ _ (h g1 _ hh1)).trans (hc1 j hj))
 have HNB:=hideH (fun (W:World) (h:Keeps w W)=>Sym.news (W:=W) (g:=g2) (s:=s2) fun j hj=>(cell_of_row W g2 j _ _ _ (h g2 _ hh2)).trans (hc2 j hj))
 have HLA:=hideH (nums_length s1)
 have HLB:=hideH (nums_length s2)
 obtain⟨na,hna⟩:∃ na,na=s1.length:=⟨_,rfl⟩
 obtain⟨nb,hnb⟩:∃ nb,nb=s2.length:=⟨_,rfl⟩
 have EA:=hideH hna
 have EB:=hideH hnb
 rw[<-hna]at hs1 hn1 HR1
 rw[<-hnb]at hs2 HR2
 clear hna hnb hh1 hc1 hq1 hh2 hc2 hq2
 have an':(a:Int)<(n:Int)+2:=by omega
 have bn':(b:Int)<(n:Int)+2:=by omega
 go_enter Tryz.func100,Tryz.ntmps100
 go_wp2_with fail
 refine(HL1.out _ (Below.refl _ _)).mono ?_
 rintro e w3 ⟨rfl,hb3⟩
 have B3:=hideH hb3
 clear hb3
 go_wp2_with fail
 refine(HL2.out _ B3.out).mono ?_
 rintro e w4 ⟨rfl,hb4⟩
 have B4:=hideH hb4
 have hz4:=hb4.size
 have G4:=hideH ((hb4.block g hgz).trans HB.out)
 have B4a:Hid (Below w4.heap.size w4 (w4.alloc (.cells #[] 3))):=(Below.refl _ _).alloc (Nat.le_refl _) _
 obtain⟨r10,r11⟩:=HR1.out _ ((B4a.out.block g (by omega)).trans G4.out)
 clear hb4 HL1 HL2 B3
 go_wp2_with (at_builtin;refine wpList_append_own0 _ rfl (.tmp 17) (.tmp 22) 129 rfl w.heap.size 3 i0 (.int .i64 0) 1 8 Tryz.underlying129 hi hz0 hz1 hz2 rfl (by decide) _ 0 [] rfl (.inl ⟨_,rfl,rfl,rfl⟩) ⟨g1,0,none⟩ na c1 (nums s1) rfl (by rw[HLA.out,<-EA.out];omega) (HNA.out _ ?k1) (nums_one _) hn1 (by unfold maxLen;omega) (by omega) ?z1 ?_)
 case z1=>simp;omega
 case k1=>exact(Keeps.below (B4.out.mono (by omega))).trans (Keeps.below B4a.out)
 intro v5 w5 hown hbel
 have O5:Hid (OwnY w5 w.heap.size v5 s1):=by
  unfold Hid OwnY
  rw[<-EA.out]
  simpa using hown
 have B5:Hid (Below w.heap.size w w5):=(B4.out.alloc hz4 _).trans (hbel _ (Nat.le_refl _))
 have hz5:=B5.out.size
 have G5:=hideH ((B5.out.block g hgz).trans HB.out)
 clear hown hbel r10 r11
 obtain⟨r20,r21⟩:=HR2.out _ G5.out
 clear B4 B4a G4 hz4
 go_wp2_with (at_builtin;refine wpList_append_own _ rfl (.tmp 24) (.tmp 29) 129 rfl w.heap.size 3 i0 (.int .i64 0) 1 8 Tryz.underlying129 hi hz0 hz1 hz2 rfl (by decide) _ _ _ rfl O5.out ⟨g2,0,none⟩ nb c2 (nums s2) rfl (by rw[HLB.out,<-EB.out];omega) (HNB.out _ (Keeps.below B5.out)) (nums_one _) (by unfold maxLen;rw[<-EA.out];omega) (by rw[<-EA.out];omega) hz5 ?_)
 intro v6 w6 hown hgrow _
 have O6:Hid (OwnY w6 w.heap.size v6 (s1++s2)):=by
  rw[EB.out]at hown
  exact OwnY.app hown
 have B6:Hid (Below w.heap.size w w6):=by
  refine B5.out.grown hgrow hz5 ?_
  intro k hk
  exact(World.ownsRow.lt O5.out k hk).1
 clear hown hgrow r20 r21 O5 B5 G5 hz5
 have hz6:=B6.out.size
 have HSL:Hid (na+nb=(s1++s2).length):=by
  unfold Hid
  rw[List.length_append,<-EA.out,<-EB.out]
 obtain⟨g7,c7,cu7,hv6,hh7,hq7,hc7⟩:=O6.out.sym (by rw[<-HSL.out];omega)
 rw[<-HSL.out]at hv6
 subst hv6
 have H7:=hideH hh7
 have HC7:=hideH hc7
 have HS6:Hid (Sym w6 (.slice (some ⟨g7,0,none⟩) (na+nb) c7) (s1++s2)):=O6.out.sym (by rw[<-HSL.out];omega)
 have h7z:=lt_row hh7
 have hd6:IsI w6 gl 2 (up d):=HD.out.below B6.out hlz
 have h7l:g7≠gl:=by
  rintro rfl
  unfold IsI at hd6
  rw[hh7]at hd6
  simp at hd6
 have hsn:na+nb<=514:=by omega
 have HIN:=hideH (fun j=>incs_le ((s1++s2).take j) d)
 have HD6:Hid (IsI w6 gl 2 (up (incs d ((s1++s2).take 0)))):=hd6
 generalize hse:s1++s2=s at HLT HJN HSL HC7 HS6 HIN HD6 ⊢
 have HSE:=hideH hse
 clear hse
 clear hh7 hq7 hc7 O6 HNA HNB hd6 HLA HLB EA EB
 obtain⟨sl,hsl⟩:∃ sl,sl=na+nb:=⟨_,rfl⟩
 rw[<-hsl]at HSL HS6 hsn ⊢
 have hs0:0<sl:=by omega
 clear hsl
 go_wp2_with fail
 go_loopw [8] (fun iv wr=>∃ j:Nat,iv=.int .i64 j/\j<=sl/\IsI wr gl 2 (up (incs d (s.take j)))/\Wr gl gl w6 wr) (fun iv _=>sl-(intOf iv).toNat)
 case atStart=>exact⟨0,rfl,Nat.zero_le _,HD6.out,Wr.refl _ _ _⟩
 case round =>
  obtain⟨j,rfl,hj,hdj,hwr⟩:=hrel
  have HDJ:=hideH hdj
  have HWR:=hideH hwr
  clear hdj hwr
  by_cases hlt:j<sl
  ·have hjx:j<s.length:=by rw[<-HSL.out];exact hlt
   have cs0:wr.cell? ⟨g7,j,none⟩=some (.int .i64 (s[j]:Nat)):=(cell_of_row wr g7 j _ _ _ ((HWR.out.block g7 h7z h7l h7l).trans H7.out)).trans (HC7.out j hjx)
   have hsy:=HLT.out s[j] (List.getElem_mem hjx)
   have HNX:=hideH (incs_next d s j hjx)
   have HBD:=hideH (HIN.out j s[j] (fun x hx=>HLT.out x (List.mem_of_mem_take hx)))
   have HBM:=hideH (HDM.out s[j])
   generalize s[j]=sy at cs0 hsy HNX HBD HBM
   have hlen:sy<(incs d (s.take j)).length:=by rw[incs_length];exact hsy
   have cl0:wr.cell? ⟨gl,sy,none⟩=some (.int .i64 (((incs d (s.take j)).getD sy 0:Nat):Int)):=by
    rw[HDJ.out.cell (j:=sy) (by rw[up_length];exact hlen),up_at _ _ hlen]
   have zl0:=HDJ.out.frozen sy
   have hsn':(sy:Int)<nl:=by have:=HDN.out;omega
   have HTL:Hid ((s.take j).length<=514):=by
    unfold Hid
    rw[List.length_take]
    omega
   obtain⟨dv,hdv⟩:∃ dv,dv=(incs d (s.take j)).getD sy 0:=⟨_,rfl⟩
   have hdvb:dv<=3000514:=by have h1:=HBD.out;have h2:=HBM.out;have h3:=HTL.out;omega
   have HDV:=hideH hdv
   rw[<-hdv]at cl0
   clear hdv hjx hsy hlen HBD HBM HTL
   have hjl:(j:Int)<(sl:Int):=by omega
   go_wp2_with fail
   go_region
   all_goals (
    go_wp2_with fail
    go_roundw
    case rel =>
     refine⟨j+1,by go_num,by omega,?_,(HWR.out.setl _ _).drew⟩
     have:=HDJ.out.set sy ((dv:Int)+1)
     rw[HNX.out,<-HDV.out,<-up_set]
     exact this
    case measure=>simp[intOf];omega)
  ·obtain rfl:j=sl:=by omega
   have HDE:Hid (IsI wr gl 2 (up (incs d s))):=by
    have:=HDJ.out
    rw[HSL.out,List.take_length]at this
    exact this
   have WW:Hid (Wr gl gl w wr):=Wr.low B6.out HWR.out
   have HSW:Hid (Sym wr (.slice (some ⟨g7,0,none⟩) j c7) s):=by
    obtain⟨x1,x2,x3,x4,x5,x6⟩:=HS6.out
    obtain⟨rfl,rfl⟩:g7=x1/\c7=x2:=by simpa [<-HSL.out] using x4
    exact⟨g7,c7,x3,x4,(HWR.out.block g7 h7z h7l h7l).trans x5,x6⟩
   have hzr:=HWR.out.size
   have GR:=hideH ((WW.out.block g hgz hgl hgl).trans HB.out)
   obtain⟨r10,r11⟩:=HR1.out _ GR.out
   obtain⟨r20,r21⟩:=HR2.out _ GR.out
   have hwp:IntKind.i64.wrap ((w1':Int)+(w2':Int))=(w1':Int)+(w2':Int):=by rw[IntKind.wrap_i64];omega
   have BA:=hideH (show Below wr.heap.size wr (wr.alloc (.cells #[.int .i64 0,.slice none 0 0] 131)) from (Below.refl _ _).alloc (Nat.le_refl _) _)
   obtain⟨q10,q11⟩:=HR1.out _ ((BA.out.block g (by omega)).trans GR.out)
   obtain⟨q20,q21⟩:=HR2.out _ ((BA.out.block g (by omega)).trans GR.out)
   clear HDJ HIN HC7 H7 HD6 HLT r11 r21 q11 q21
   go_wp2_with fail
   go_region
   have hcast:(w1':Int)+(w2':Int)=((w1' + w2':Nat):Int):=by omega
   rw[hcast]
   generalize w1' + w2'=ws at HJN hwl ⊢
   clear hcast hwp r10 r20 q10 q20 BA HR1 HR2
   have B9:=hideH (show Below wr.heap.size wr (wr.alloc (.cells #[.int .i64 (ws:Nat),.slice (some ⟨g7,0,none⟩) j c7] 131)).drew from ((Below.refl _ _).alloc (Nat.le_refl _) _).drew)
   have R9:Hid ((wr.alloc (.cells #[.int .i64 (ws:Nat),.slice (some ⟨g7,0,none⟩) j c7] 131)).drew.heap[wr.heap.size]? = some (.cells #[.int .i64 (ws:Nat),.slice (some ⟨g7,0,none⟩) j c7] 131 (0,0))):=heap_alloc_new wr _
   have hz9:(wr.alloc (.cells #[.int .i64 (ws:Nat),.slice (some ⟨g7,0,none⟩) j c7] 131)).drew.heap.size=wr.heap.size+1:=by simp
   generalize (wr.alloc (.cells #[.int .i64 (ws:Nat),.slice (some ⟨g7,0,none⟩) j c7] 131)).drew=W9 at B9 R9 hz9 ⊢
   have W9W:=hideH (WW.out.more B9.out)
   have G9:=hideH ((B9.out.block g (by omega)).trans GR.out)
   have D9:Hid (IsI W9 gl 2 (up (incs d s))):=HDE.out.below B9.out HDE.out.lt
   have S9:=hideH (HSW.out.keeps (Keeps.below B9.out))
   have Y9:Hid (Syms W9 m):=HY.out.keeps ((Keeps.wr WW.out HD.out (by decide) HD.out (by decide)).trans (Keeps.below B9.out))
   have hz99:w.heap.size<=W9.heap.size:=W9W.out.size
   have C90:Hid (∀ W,Below W9.heap.size W9 W->W.heap[wr.heap.size]? = some (.cells #[.int .i64 (ws:Nat),.slice (some ⟨g7,0,none⟩) j c7] 131 (0,0))):=fun W h=>(h.block _ (by omega)).trans R9.out
   have hg9:g<W9.heap.size:=by omega
   have hl9:=D9.out.lt
   clear B9 WW GR HDE HSW HWR B6 HS6 R9 HY HB HD
   generalize wr.heap.size=z9 at hz9 C90 hzr ⊢
   clear wr hz9
   go_wp2_with fail
   go_loopw [11,10] (fun iv ov wq=>∃ i:Nat,iv=.int .i64 i/\i<=n+2/\Own0 wq W9.heap.size 131 2 ov (midJ m a b' i).length (cells (midJ m a b' i))/\Below W9.heap.size W9 wq) (fun iv _ _=>n+2-(intOf iv).toNat)
   case atStart=>exact⟨0,rfl,Nat.zero_le _,.inl ⟨_,rfl,by simp[midJ],by simp[midJ,cells]⟩,(Below.refl _ _).alloc (Nat.le_refl _) _⟩
   case round =>
    obtain⟨i,rfl,hi2,ho,hbq⟩:=hrel
    have OQ:=hideH ho
    have BQ:=hideH hbq
    have hzq:=hbq.size
    clear ho hbq
    by_cases hlt2:i<n+2
    ·have him:i<m.length:=by rw[HN.out];exact hlt2
     have hi':(i:Int)<(n:Int)+2:=by omega
     by_cases hia:i=a
     ·have SK:=hideH (HSK.out i him (.inl hia))
      subst hia
      go_wp2_with fail
      go_roundw
      case rel=>exact⟨i+1,by go_num,by omega,by rw[SK.out];exact OQ.out,BQ.out⟩
      case measure=>simp[intOf];omega
     ·have hna:((i:Int) != (a:Int))=true:=by simp;omega
      by_cases hib:i=b
      ·have SK:=hideH (HSK.out i him (.inr hib))
       subst hib
       clear hia
       go_wp2_with fail
       go_roundw
       case rel=>exact⟨i+1,by go_num,by omega,by rw[SK.out];exact OQ.out,BQ.out⟩
       case measure=>simp[intOf];omega
      ·have hnb:((i:Int) != (b:Int))=true:=by simp;omega
       have KP:=hideH (HKP.out i him hia hib)
       have SX:=Y9.out m[i] (List.getElem_mem him)
       have B1:=hideH (BQ.out)
       obtain⟨ri0,ri1⟩:=HRI.out _ ((BQ.out.block g hg9).trans G9.out) i him
       have hml:=HML.out i
       generalize m[i]=x at KP SX ri0 ri1
       obtain⟨⟨xw,xs⟩,xv⟩:=x
       simp only at SX ri0 ri1
       obtain⟨gx,cx,cux,rfl,_,_,_⟩:=SX
       obtain⟨lx,hlx⟩:∃ lx,lx=xs.length:=⟨_,rfl⟩
       have HLX:=hideH hlx
       rw[<-hlx]at ri1
       clear hlx hia hib
       go_wp2_with (at_builtin;refine wpList_append_own0 _ rfl (.tmp 79) (.tmp 84) 128 rfl W9.heap.size 131 j0 _ 2 32 Tryz.underlying128 hji hj0 hj1 hj2 rfl (by decide) _ _ _ rfl (OQ.out.alloc _) ⟨wr.heap.size,0,none⟩ 1 1 [.int .i64 (xw:Nat),.slice (some ⟨gx,0,none⟩) lx cx] rfl rfl (two_new _ _ _ _) (two_one rfl rfl) (by decide) (by unfold maxLen;omega) (by omega) (by simp;omega) ?_)
       intro v' w2 hown hbel
       have O2:Hid (Own0 w2 W9.heap.size 131 2 v' (midJ m a b' (i+1)).length (cells (midJ m a b' (i+1)))):=by
        refine .inr ?_
        have:=OwnT.snoc (m:=midJ m a b' i) (x:=((xw,xs),.slice (some ⟨gx,0,none⟩) lx cx)) hown
        rw[KP.out,<-HLX.out]
        exact this
       have B2:Hid (Below W9.heap.size W9 w2):=(BQ.out.alloc hzq _).trans (hbel _ (Nat.le_refl _))
       clear hown hbel
       go_wp2_with fail
       go_roundw
       case rel=>exact⟨i+1,by go_num,by omega,O2.out,B2.out⟩
       case measure=>simp[intOf];omega
    ·obtain rfl:i=n+2:=by omega
     have c90:=cell_of_row wr _ 0 _ _ _ (C90.out wr BQ.out)
     have c91:=cell_of_row wr _ 1 _ _ _ (C90.out wr BQ.out)
     simp at c90 c91
     have hml:=HML.out (n+2)
     go_wp2_with (at_builtin;refine wpList_append_own0 _ rfl (.tmp 86) (.tmp 88) 128 rfl W9.heap.size 131 j0 _ 2 32 Tryz.underlying128 hji hj0 hj1 hj2 rfl (by decide) _ _ _ rfl (OQ.out.alloc _) ⟨wr.heap.size,0,none⟩ 1 1 [.int .i64 (ws:Nat),.slice (some ⟨g7,0,none⟩) j c7] rfl rfl (two_new _ _ _ _) (two_one rfl rfl) (by decide) (by unfold maxLen;omega) (by omega) (by simp;omega) ?_)
     intro v' w2 hown hbel
     have O2:Hid (OwnT w2 131 w.heap.size v' (midJ m a b' (n+2)++[((ws,s),.slice (some ⟨g7,0,none⟩) j c7)])):=(OwnT.snoc (m:=midJ m a b' (n+2)) (x:=((ws,s),.slice (some ⟨g7,0,none⟩) j c7)) hown).mono hz99
     have B2:Hid (Below W9.heap.size W9 w2):=(BQ.out.alloc hzq _).trans (hbel _ (Nat.le_refl _))
     have Y2:Hid (Syms w2 (midJ m a b' (n+2)++[((ws,s),.slice (some ⟨g7,0,none⟩) j c7)])):=by
      intro x hx
      rcases List.mem_append.1 hx with hx|hx
      ·exact(Y9.out x (HMM.out _ x hx)).keeps (Keeps.below B2.out)
      ·rw[List.mem_singleton.1 hx]
       exact S9.out.keeps (Keeps.below B2.out)
     clear hown hbel
     go_wp2_with fail
     go_ret
     refine⟨_,_,rfl,?_,O2.out,Y2.out,by rw[HSE.out];exact D9.out.below B2.out hl9,W9W.out.more B2.out⟩
     rw[<-HJN.out]
     unfold mt
     rw[List.map_append]
     rfl
end Go.Proofs.YtjfdllgodijibaaGreatDoor.Hf


/- An append of some things onto a row of the call's own, or onto one that is empty and has no room: rows of another element type stay as they were. -/
namespace Go.Proofs.YtjfdllgodijibaaGreatDoor.Ap
open Go.RowKit
def KeepE (e:TypeId) (W W':World):Prop:=∀ (g:Nat) (cur:Array Value) (t:TypeId),t≠e->W.heap[g]? = some (.cells cur t (0,0))->W'.heap[g]? = some (.cells cur t (0,0))
theorem KeepE.below {e:TypeId} {W W':World} (h:Below W.heap.size W W'):KeepE e W W':=fun g _ _ _ hg=>(h.block g (Array.getElem?_eq_some_iff.1 hg).1).trans hg
theorem keepE_own {W W':World} {base size n:Nat} {e:TypeId} {v:Value} {xs:List Value} (h:W.grownBy W' v.ownBlock) (ho:W.ownsRow base e size v n xs):KeepE e W W':=fun g cur t ht hg=>by
 rw[h.block g (Array.getElem?_eq_some_iff.1 hg).1 (by
  intro hk
  obtain⟨_,ho⟩:=ho
  rcases ho with⟨hv,_⟩|⟨k,cap,cs,hv,_,hb,_⟩
  ·subst hv
   simp[Value.ownBlock]at hk
  ·subst hv
   simp[Value.ownBlock]at hk
   subst hk
   rw[hb]at hg
   simp at hg
   exact ht hg.2.symm)]
 exact hg
theorem run_append_own0k {P:Program} (w:World) (base:Nat) (t ty e:TypeId) (i:TypeInfo) (z:Value) (size bytes:Nat) (ht:P.underlying t=some (.slice e)) (hi:P.info? e=some i) (hz:i.zero=some z)
  (hsize:i.size=size) (hby:i.bytes=bytes) (hzs:z.cells.size=size) (hsz:0<size)
  (v:Value) (n:Nat) (xs:List Value) (hown:Own0 w base e size v n xs)
  (a:Addr) (m c:Nat) (news:List Value) (hl:news.length=m*size) (hnews:∀ j u,news[j]? = some u->w.cell? (a.add j)=some u) (h1:∀ u∈news,u.oneCell'=true) (hm:0<m)
  (h63:n+m<=maxLen) (hbytes:(n+m)*bytes<=140737488355328) (hbase:base<=w.heap.size) :
  ∃ v' w',(Builtin.append_ #[t,t] ty #[v,.slice (some a) m c]).run P w=.ok v' w'/\w'.ownsRow base e size v' (n+m) (xs++news)/\(∀ B,B<=base->Below B w w')/\KeepE e w w':=by
 rcases hown with⟨b,rfl,rfl,rfl⟩|hown
 ·subst hsize
  subst hby
  have hsmall:m<=9223372036854775807:=by simp only[maxLen]at h63;omega
  have hr:=run_append_grow (P:=P) w t ty e i z ht hi hz b 0 0 [] (by simp) (by simp) a m c news hl hnews (by omega) (by omega) (growslice_fits (by omega) hbytes)
  refine⟨_,_,hr,?_,fun B hB=>?_,KeepE.below (((Below.refl _ w).drew).alloc (Nat.le_refl _) _)⟩
  ·have hge:=grownCap_ge w (0+m) 0 e
   have hcm:grownCap w (0+m) 0 e<=maxLen:=grownCap_le_maxLen w (0+m) 0 e h63
   refine⟨by simpa using hl,.inr ⟨w.heap.size,_,_,rfl,hbase,heap_alloc_new w.drew _,hge,hcm,?_,?_⟩⟩
   ·simp only[Array.size_append,List.size_toArray,size_zeroCells,hzs,hl,List.length_nil]
    rw[Nat.zero_add,<-Nat.add_mul]
    congr 1
    omega
   ·simp only[Array.toList_append,List.nil_append]
    rw[show (0+m)*i.size=news.length by rw[Nat.zero_add,hl]]
    exact List.take_left
  ·exact((Below.refl B w).drew).alloc (by simp;omega) _
 ·obtain⟨v',w',hr,h2,h3,_⟩:=run_append_own (P:=P) w base t ty e i z size bytes ht hi hz hsize hby hzs hsz v n xs hown a m c news hl hnews h1 h63 hbytes hbase
  refine⟨v',w',hr,h2,fun B hB=>(Below.refl B w).grown h3 (by omega) ?_,keepE_own h3 hown⟩
  intro k hk
  exact Nat.le_trans hB (hown.lt k hk).1
theorem wpList_append_own0k {P:Program} (w:World) {ops:Array Oper} {rest:List Oper} {o:Oper} {a:Act} {Q:Exit->Act->World->Prop} (hgd:o.guard=none) (s x:Operand) (t:TypeId)
  (ho:o.op=.call { callee:=.builtin .append,args:=#[s,x],argTypes:=#[t,t] })
  (base:Nat) (e:TypeId) (i:TypeInfo) (z:Value) (size bytes:Nat) (ht:P.underlying t=some (.slice e)) (hi:P.info? e=some i) (hz:i.zero=some z)
  (hsize:i.size=size) (hby:i.bytes=bytes) (hzs:z.cells.size=size) (hsz:0<size)
  (v:Value) (n:Nat) (xs:List Value) (hs:a.eval s=v) (hown:Own0 w base e size v n xs)
  (ad:Addr) (m c:Nat) (news:List Value) (hx:a.eval x=.slice (some ad) m c) (hl:news.length=m*size) (hnews:∀ j u,news[j]? = some u->w.cell? (ad.add j)=some u) (h1:∀ u∈news,u.oneCell'=true) (hm:0<m)
  (h63:n+m<=maxLen) (hbytes:(n+m)*bytes<=140737488355328) (hbase:base<=w.heap.size)
  (h:∀ v' w',w'.ownsRow base e size v' (n+m) (xs++news)->(∀ B,B<=base->Below B w w')->KeepE e w w'->wpList P ops Q rest (a.put o.dst v') w'):wpList P ops Q (o :: rest) a w :=
 wpList_plain hgd fun _ hK=>by
  obtain⟨v',w',hr,h2,h3,h4⟩:=run_append_own0k (P:=P) w base t o.type e i z size bytes ht hi hz hsize hby hzs hsz v n xs hown ad m c news hl hnews h1 hm h63 hbytes hbase
  unfold Oper.wp execOp
  simp only[ho,resolve,invoke,builtin,Sem.run_bind,Sem.run_pure,Result.andThen_ok,List.map_toArray,List.map_cons,List.map_nil,hs,hx,hr]
  exact hK _ _ (h v' w' h2 h3 h4)
end Go.Proofs.YtjfdllgodijibaaGreatDoor.Ap


namespace Go.Proofs.YtjfdllgodijibaaGreatDoor.Hf
open Go.RowKit
open In (IsI irow Ints made_ints)
open Ap (Own0 wpList_append_own0k)
def mxN (d:List Nat):Nat->Nat
 |0=>0
 |j+1=>max (mxN d j) (d.getD j 0)
theorem mxN_le (d:List Nat) (b:Nat):∀ i,mxN d i<=b↔∀ j,j<i->d.getD j 0<=b
 |0=>⟨fun _ j h=>by omega,fun _=>Nat.zero_le _⟩
 |i+1=>by
  have ih:=mxN_le d b i
  rw[mxN]
  constructor
  ·intro h j hj
   by_cases e:j=i
   ·subst e
    omega
   ·exact ih.1 (by omega) j (by omega)
  ·intro h
   have h1:=ih.2 fun j hj=>h j (by omega)
   have h2:=h i (by omega)
   omega
theorem okay_mx (d:List Nat):okay d=decide (mxN d d.length<=12):=by
 unfold okay
 by_cases h:mxN d d.length<=12
 ·rw[decide_eq_true h,List.all_eq_true]
  intro x hx
  obtain⟨j,hj,rfl⟩:=List.getElem_of_mem hx
  have:=(mxN_le d 12 d.length).1 h j hj
  rw[List.getD_eq_getElem?_getD,List.getElem?_eq_getElem hj]at this
  exact decide_eq_true this
 ·rw[decide_eq_false h,Bool.eq_false_iff]
  intro hall
  rw[List.all_eq_true]at hall
  refine h ((mxN_le d 12 d.length).2 fun j hj=>?_)
  rw[List.getD_eq_getElem?_getD,List.getElem?_eq_getElem hj]
  exact of_decide_eq_true (hall _ (List.getElem_mem hj))
theorem max_any (p q:Nat) (w:World):Calls Tryz.prog 101 #[.int .i64 p,.int .i64 q] w fun e w'=>e=.returned (.int .i64 (max p q:Nat))/\w'=w:=by
 by_cases h:q<p
 ·have HE:Hid (max p q=p):=by unfold Hid;omega
  rw[HE.out]
  have h':(q:Int)<p:=by omega
  go_enter Tryz.func101,Tryz.ntmps101
  go_wp2_with fail
  go_ret
  exact⟨rfl,rfl⟩
 ·have HE:Hid (max p q=q):=by unfold Hid;omega
  rw[HE.out]
  have h':decide ((q:Int)<p)=false:=by simp;omega
  go_enter Tryz.func101,Tryz.ntmps101
  go_wp2_with fail
  go_ret
  exact⟨rfl,rfl⟩
theorem own0_slice {W:World} {e:TypeId} {base size k:Nat} {v:Value} {xs:List Value} (h:Own0 W base e size v k xs):∃ x q,v=.slice x k q:=by
 rcases h with⟨b,rfl,rfl,_⟩|⟨_,h⟩
 ·exact⟨_,_,rfl⟩
 ·rcases h with⟨h,h0⟩|⟨g,q,_,hv,_⟩
  ·exact⟨none,0,by rw[h,h0]⟩
  ·exact⟨_,q,hv⟩
theorem own0_own {W:World} {e:TypeId} {base:Nat} {v:Value} {m:List MT} (h:Own0 W base e 2 v m.length (cells m)) (h0:0<m.length):OwnT W e base v m:=by
 rcases h with⟨b,_,h,_⟩|h
 ·omega
 ·exact h
theorem join_ne (m:List MT) (h2:2<=(mt m).length) (hne:∀ z∈m,0<z.1.2.length) (t:Tree) (ht:t∈join (mt m)):0<t.2.length:=by
 have hall:∀ u∈mt m,0<u.2.length:=by
  intro u hu
  obtain⟨z,hz,rfl⟩:=List.mem_map.1 hu
  exact hne z hz
 have hp:=two_perm (mt m) h2
 rcases List.mem_cons.1 ((join_perm (mt m)).mem_iff.1 ht) with rfl|hr
 ·have:=hall (first (mt m)) (hp.mem_iff.2 (List.mem_cons_self ..))
  unfold both
  rw[List.length_append]
  omega
 ·exact hall t (hp.mem_iff.2 (List.mem_cons_of_mem _ (List.mem_cons_of_mem _ hr)))
structure LpS (base gl n S:Nat) (w:World) (wr:World) (v:Value) (m:List MT) (d:List Nat):Prop where
 own:Own0 wr base 131 2 v m.length (cells m)
 sym:Syms wr m
 len:IsI wr gl 2 (up d)
 inv:Inv (mt m) d S
 few:ns (mt m)<=n
 dn:d.length=n
 ne:∀ z∈m,0<z.1.2.length
 low:Below w.heap.size w wr
 lo:w.heap.size<=gl
 hi:gl<base
theorem lensS_any (a:Option Addr) (cap n:Nat) (c:List Nat) (w:World) (h:Ints w w.heap.size a (up c)) (hn:c.length=n) (h257:n<=257) (hm:∀ x∈c,x<=10000) :
  Calls Tryz.prog 95 #[.slice a n cap] w fun e w'=>e=.returned (.tuple #[.slice (some ⟨w.heap.size,0,none⟩) n n,.int .i64 (mxN (depths c) n:Nat)])/\IsI w' w.heap.size 2 (up (depths c))/\Below w.heap.size w w':=by
 obtain⟨i0,hi,hz0,hz1,hz2⟩:=info_parts In.Tryz.infoI2
 obtain⟨j0,hji,hj0,hj1,hj2⟩:=info_parts Tryz.infoTreeS
 have HN:=hideH hn
 have HS:=hideH h
 have HSUM:=hideH (sum_all c (by omega) hm)
 have HINV:=hideH (trees_inv c n (by omega))
 have HNS:=hideH (ns_trees c n)
 have HDE:Hid (depths c=if (trees c n).length=1 then (zeros n).set ((at0 (trees c n) 0).2.getD 0 0) 1 else run (trees c n).length (trees c n) (zeros n)):=by
  unfold Hid
  rw[<-hn]
  rfl
 have HTK:Hid ((c.take n).sum=c.sum):=by
  unfold Hid
  rw[<-hn,List.take_length]
 clear hn h hm
 go_enter Tryz.func95,Tryz.ntmps95
 go_wp2_with (at_make;refine wpList_make_full _ rfl (.tmp 10) (.tmp 10) 44 rfl w.heap.size 2 i0 (.int .i64 0) 1 Tryz.underlying44 hi hz0 hz1 .i64 .i64 _ _ n rfl rfl (by omega) (by omega) (by rw[hz2];omega) (by unfold maxLen;omega) (Nat.le_refl _) ?_;intro w1 hown hgrow;have HI1:=hideH (made_ints hown);have HB1:=hideH ((Below.refl w.heap.size w).grown hgrow (Nat.le_refl _) (by simp));have hz1w:=(made_ints hown).lt;clear hown hgrow)
 have HS1:=hideH (((HS.out.below HB1.out).mono HB1.out.size))
 clear HS
 go_loopw [6,5] (fun iv tv wr=>∃ (j:Nat) (m:List MT),iv=.int .i64 j/\j<=n/\mt m=trees c j/\Own0 wr w1.heap.size 131 2 tv m.length (cells m)/\Syms wr m/\Below w1.heap.size w1 wr) (fun iv _ _=>n-(intOf iv).toNat)
 case atStart=>exact⟨0,[],rfl,Nat.zero_le _,rfl,.inl ⟨_,rfl,rfl,rfl⟩,fun x hx=>absurd hx (List.not_mem_nil),(Below.refl _ _).alloc (Nat.le_refl _) _⟩
 case round =>
  obtain⟨j,m,rfl,hj,hmt,ho,hy,hbw⟩:=hrel
  have HM:=hideH hmt
  have HO:=hideH ho
  have HY:=hideH hy
  have HBW:=hideH hbw
  have hwz:=hbw.size
  have hml:m.length<=j:=by rw[<-mt_length,hmt];exact trees_length c j
  clear hmt ho hy hbw
  by_cases hlt:j<n
  ·have hjc:j<c.length:=by rw[HN.out];exact hlt
   obtain⟨b,off,rfl,hbz,hcl⟩:=HS1.out.some (by rw[up_length];omega)
   have ci:wr.cell? ⟨b,off+j,none⟩=some (.int .i64 (c[j]:Nat)):=(HBW.out.cell (p:=⟨b,off+j,none⟩) hbz).trans (up_get hcl j hjc)
   have HT1:=hideH (trees_yes c j hjc)
   have HT0:=hideH (trees_no c j hjc)
   generalize c[j]=cj at ci HT1 HT0
   clear hcl hjc
   by_cases h0:0<cj
   ·have h0':(0:Int)<(cj:Int):=by omega
    go_wp2_with (at_builtin;refine wpList_append_own0k _ rfl (.tmp 24) (.tmp 32) 128 rfl w1.heap.size 131 j0 _ 2 32 Tryz.underlying128 hji hj0 hj1 hj2 rfl (by decide) _ _ _ rfl ((HO.out.alloc _).alloc _) ⟨wr.heap.size+1,0,none⟩ 1 1 [.int .i64 (cj:Nat),.slice (some ⟨wr.heap.size,0,none⟩) 1 1] rfl rfl ?c1 (two_one rfl rfl) (by decide) (by unfold maxLen;omega) (by omega) (by simp;omega) ?_)
    case c1 =>
     have:=two_new (wr.alloc (.cells #[.int .i64 (j:Nat)] 3)) (.int .i64 (cj:Nat)) (.slice (some ⟨wr.heap.size,0,none⟩) 1 1) 131
     simpa using this
    intro v' w2 hown hbel hkp
    have HO2:Hid (Own0 w2 w1.heap.size 131 2 v' (m++[(((cj,[j]),.slice (some ⟨wr.heap.size,0,none⟩) 1 1):MT)]).length (cells (m++[((cj,[j]),.slice (some ⟨wr.heap.size,0,none⟩) 1 1)]))):=.inr (OwnT.snoc (x:=((cj,[j]),.slice (some ⟨wr.heap.size,0,none⟩) 1 1)) hown)
    have HB2:Hid (Below w1.heap.size w1 w2):=((HBW.out.alloc hwz _).alloc (by simp;omega) _).trans (hbel _ (Nat.le_refl _))
    have hk1:Keeps wr (wr.alloc (.cells #[.int .i64 (j:Nat)] 3)):=Keeps.below ((Below.refl _ _).alloc (Nat.le_refl _) _)
    have hk2:=hk1.trans (Keeps.below ((Below.refl _ (wr.alloc (.cells #[.int .i64 (j:Nat)] 3))).alloc (Nat.le_refl _) (.cells #[.int .i64 (cj:Nat),.slice (some ⟨wr.heap.size,0,none⟩) 1 1] 131)))
    have hk3:Keeps ((wr.alloc (.cells #[.int .i64 (j:Nat)] 3)).alloc (.cells #[.int .i64 (cj:Nat),.slice (some ⟨wr.heap.size,0,none⟩) 1 1] 131)) w2:=fun g' cur' e'=>hkp g' cur' _ (by decide) e'
    have HY2:Hid (Syms w2 (m++[((cj,[j]),.slice (some ⟨wr.heap.size,0,none⟩) 1 1)])):=by
     intro x hx
     rcases List.mem_append.1 hx with hx|hx
     ·exact(HY.out x hx).keeps (hk2.trans hk3)
     ·rw[List.mem_singleton.1 hx]
      exact((Sym.one wr j).keeps (Keeps.below ((Below.refl _ _).alloc (Nat.le_refl _) _))).keeps hk3
    clear hown hbel hkp hk1 hk2 hk3
    go_wp2_with fail
    go_roundw
    case rel=>exact⟨j+1,m++[((cj,[j]),.slice (some ⟨wr.heap.size,0,none⟩) 1 1)],by go_num,by omega,by rw[HT1.out h0,<-HM.out];unfold mt;rw[List.map_append];rfl,HO2.out,HY2.out,HB2.out⟩
    case measure=>simp[intOf];omega
   ·have h0':cj=0:=by omega
    subst h0'
    go_wp2_with fail
    go_roundw
    case rel=>exact⟨j+1,m,by go_num,by omega,by rw[HT0.out h0];exact HM.out,HO.out,HY.out,HBW.out⟩
    case measure=>simp[intOf];omega
  ·obtain rfl:j=n:=by omega
   have hlen:w1.heap.size<=wr.heap.size:=hwz
   have HLP:Hid (LpS w1.heap.size w.heap.size j c.sum w wr u5 m (zeros j)):=⟨HO.out,HY.out,by
    have:up (zeros j)=List.replicate j 0:=by unfold up zeros;rw[List.map_replicate];rfl
    rw[this]
    exact HI1.out.below HBW.out hz1w,by
    have:=HINV.out
    rw[HN.out,HTK.out]at this
    rw[HM.out]
    exact this,by rw[HM.out];exact HNS.out,List.length_replicate ..,fun z hz=>by
    obtain⟨i,_,_,e⟩:=trees_mem c j z.1 (by rw[<-HM.out];exact List.mem_map.2 ⟨z,hz,rfl⟩)
    rw[e]
    exact Nat.zero_lt_one,HB1.out.trans (HBW.out.mono HB1.out.size),Nat.le_refl _,hz1w⟩
   obtain⟨x2,q2,hv2⟩:=own0_slice HLP.out.own
   subst hv2
   clear HO HY HBW HI1 HS1
   generalize wr=w2 at HLP hlen ⊢
   have HMT:=hideH HM.out
   clear HM
   obtain⟨k,hk⟩:∃ k,k=m.length:=⟨_,rfl⟩
   have HK:=hideH hk
   rw[<-hk]at hml HLP ⊢
   clear hk
   by_cases h1:k=1
   ·subst h1
    obtain⟨y,hy⟩:=List.length_eq_one_iff.1 HK.out.symm
    subst hy
    obtain⟨g,q',cur,hv,hgb,hmc,hmx,hbk,hcs,hct⟩:=(own0_own (m:=[y]) HLP.out.own Nat.zero_lt_one).parts Nat.zero_lt_one
    obtain⟨rfl,rfl⟩:x2=some ⟨g,0,none⟩/\q2=q':=by simp at hv;exact hv
    have hr:=row_at (m:=[y]) hbk hct 0 Nat.zero_lt_one
    obtain⟨jj,hjn,_,hye⟩:=trees_mem c j y.1 (by rw[<-HMT.out];exact List.mem_map.2 ⟨y,List.mem_singleton.2 rfl,rfl⟩)
    have hsy:=HLP.out.sym y (List.mem_singleton.2 rfl)
    have HTE:Hid (trees c j=[y.1]):=HMT.out.symm
    obtain⟨⟨yw,ys⟩,yv⟩:=y
    simp only at hr hye hsy HTE
    obtain⟨rfl,rfl⟩:=Prod.mk.inj hye
    obtain⟨gs,cs,cu,rfl,hgs,hsc,hsv⟩:=hsy
    have hs0:w2.cell? ⟨gs,0,none⟩=some (.int .i64 (jj:Nat)):=(cell_of_row w2 gs 0 _ _ _ hgs).trans (hsv 0 Nat.zero_lt_one)
    have hlz:jj<(zeros j).length:=by rw[HLP.out.dn];exact hjn
    have cl0:w2.cell? ⟨w.heap.size,jj,none⟩=some (.int .i64 (((zeros j).getD jj 0:Nat):Int)):=by
     rw[HLP.out.len.cell (j:=jj) (by rw[up_length];exact hlz),up_at _ _ hlz]
    have zl0:=HLP.out.len.frozen jj
    generalize (zeros j).getD jj 0=old at cl0
    have HD1:Hid (depths c=(zeros j).set jj 1):=by
     have:=HDE.out
     rw[HTE.out]at this
     exact this
    have I3:Hid (IsI (w2.setCell ⟨w.heap.size,jj,none⟩ (.int .i64 1)) w.heap.size 2 (up (depths c))):=by
     have:=HLP.out.len.set jj 1
     unfold Hid
     rw[HD1.out]
     rw[show ((1:Int))=((1:Nat):Int) from rfl,up_set]at this
     exact this
    have B3:Hid (Below w.heap.size w (w2.setCell ⟨w.heap.size,jj,none⟩ (.int .i64 1))):=HLP.out.low.setCell (by simp) _
    obtain⟨r0,r1⟩:=hr
    rw[Nat.zero_mul]at r0
    rw[show 0*2+1=1 from rfl]at r1
    have hjn':(jj:Int)<j:=by omega
    clear hbk hcs hct hgs hsv hlz hmx HINV HNS HDE HLP
    go_wp2_with fail
    clear cl0 zl0 r0 r1 hs0
    generalize w2.setCell ⟨w.heap.size,jj,none⟩ (.int .i64 1)=w4 at I3 B3 ⊢
    go_loopw [5] (fun tv wr=>tv=.slice (some ⟨g,0,none⟩) 1 q2/\wr=w4) (fun _ _=>0)
    case atStart=>exact⟨rfl,rfl⟩
    case round =>
     obtain⟨rfl,hw⟩:=hrel
     subst wr
     go_wp2_with fail
     have DL:=hideH ((depths_length c).trans HN.out)
     generalize hD:depths c=D at I3 DL
     have HD:=hideH hD
     clear hD
     generalize w4=wz at I3 B3 ⊢
     go_loopw [8,7] (fun iv mv wr=>∃ i:Nat,iv=.int .i64 i/\i<=j/\mv=.int .i64 (mxN D i:Nat)/\wr=wz) (fun iv _ _=>j-(intOf iv).toNat)
     case atStart=>exact⟨0,rfl,Nat.zero_le _,rfl,rfl⟩
     case round =>
      obtain⟨i,rfl,hi3,rfl,hw⟩:=hrel
      subst wr
      by_cases hlt3:i<j
      ·have hil:i<D.length:=by rw[DL.out];exact hlt3
       have ci:wz.cell? ⟨w.heap.size,i,none⟩=some (.int .i64 (D.getD i 0:Nat)):=by
        rw[I3.out.cell (j:=i) (by rw[up_length];exact hil),up_at _ _ hil]
       have NX:Hid (mxN D (i+1)=max (mxN D i) (D.getD i 0)):=rfl
       have hii:(i:Int)<j:=by omega
       generalize D.getD i 0=x at ci NX
       generalize mxN D i=p at NX ⊢
       clear hil
       go_wp2_with fail
       refine(max_any p x wz).mono ?_
       rintro e w8 ⟨rfl,hw8⟩
       subst w8
       go_wp2_with fail
       go_roundw
       case rel=>exact⟨i+1,by go_num,by omega,by rw[NX.out],by trivial⟩
       case measure=>simp[intOf];omega
      ·obtain rfl:i=j:=by omega
       go_wp2_with fail
       go_ret2
       exact⟨by rw[HD.out];rfl,by rw[HD.out];exact I3.out,B3.out⟩
   ·have h1':((k:Int)==1)=false:=by simp;omega
    have HRUN:Hid (depths c=run m.length (mt m) (zeros j)):=by
     have:=HDE.out
     rw[<-HMT.out,mt_length,<-HK.out,if_neg h1]at this
     rw[<-HK.out]
     exact this
    go_wp2_with fail
    go_loopw [5] (fun tv wr=>∃ (m:List MT) (d:List Nat) (x:Option Addr) (k q:Nat),tv=.slice x k q/\k=m.length/\k<=j/\depths c=run m.length (mt m) d/\LpS w1.heap.size w.heap.size j c.sum w wr (.slice x k q) m d) (fun tv _=>match tv with|.slice _ k _=>k|_=>0)
    case atStart=>exact⟨m,zeros j,x2,k,q2,rfl,HK.out,by omega,HRUN.out,HLP.out⟩
    case round =>
     obtain⟨m,d,x,k,q,rfl,hk,hkn,hrun,hlp⟩:=hrel
     have HRU:=hideH hrun
     have HL:=hideH hlp
     have HKM:=hideH hk
     clear hrun hlp hk HMT HLP HRUN HK
     by_cases h2:1<k
     ·obtain⟨k2,rfl⟩:∃ k2,k=k2+2:=⟨k-2,by omega⟩
      have hm1:m.length=k2+2:=HKM.out.symm
      obtain⟨g,q',cur,hv,hgb,hmc,hmx,hbk,hcs,hct⟩:=(own0_own (m:=m) (by rw[hm1];have:=HL.out.own;rw[hm1]at this;exact this) (by omega)).parts (by omega)
      rw[hm1]at hv hmc
      obtain⟨rfl,rfl⟩:x=some ⟨g,0,none⟩/\q=q':=by simp at hv;exact hv
      have hinv:=HL.out.inv
      have h2l:2<=(mt m).length:=by rw[mt_length];omega
      have hsum:=HSUM.out
      have hjw:=hinv.weights h2l
      have hjinv:=hinv.join h2l
      have hjns:=ns_join (mt m) h2l
      have hrm:=run_more (mt m) d (by omega)
      have hbd:∀ z∈m,z.1.2.length<=257:=fun z hz=>by
       have h3:=ns_mem (mt m) z.1 (List.mem_map.2 ⟨z,hz,rfl⟩)
       have h4:=HL.out.few
       omega
      have hlt:∀ z∈m,∀ s∈z.1.2,s<d.length:=fun z hz=>hinv.lt z.1 (List.mem_map.2 ⟨z,hz,rfl⟩)
      have hsm:∀ i,d.getD i 0<=3000000:=fun i=>by
       have:=hinv.small i
       omega
      have HJ:=hideH (joinS_any g w.heap.size k2 q j j m d cur wr hm1 (by omega) hbk hct HL.out.sym hbd HL.out.ne hlt HL.out.len HL.out.dn hsm (by omega))
      have HNX:Hid (∀ v' m' w',mt m'=join (mt m)->OwnT w' 131 wr.heap.size v' m'->Syms w' m'->IsI w' w.heap.size 2 (up (incs (incs d (first (mt m)).2) (second (mt m)).2))->Wr w.heap.size w.heap.size wr w'->∃ x q,v'=.slice x (k2+1) q/\k2+1=m'.length/\depths c=run m'.length (mt m') (incs (incs d (first (mt m)).2) (second (mt m)).2)/\LpS w1.heap.size w.heap.size j c.sum w w' v' m' (incs (incs d (first (mt m)).2) (second (mt m)).2)):=by
       intro v' m' w' e1 e2 e3 e4 e5
       have hl':m'.length=k2+1:=by
        rw[<-mt_length,e1,join_length _ h2l,mt_length,hm1]
        omega
       obtain⟨g9,q9,_,hv9,_⟩:=e2.parts (by omega)
       have hlow:=HL.out.low
       have hw1:w1.heap.size<=wr.heap.size:=by
        have:=lt_row hbk
        omega
       refine⟨_,q9,by rw[hv9,hl'],hl'.symm,?_,⟨.inr (e2.mono hw1),e3,e4,by rw[e1];exact hjinv,by rw[e1,hjns];exact HL.out.few,by rw[incs_length,incs_length];exact HL.out.dn,?_,?_,HL.out.lo,HL.out.hi⟩⟩
       ·have h3:=HRU.out
        rw[mt_length]at hrm
        rw[hrm,<-e1,mt_length]at h3
        exact h3
       ·intro z hz
        have hz':z.1∈join (mt m):=by rw[<-e1];exact List.mem_map.2 ⟨z,hz,rfl⟩
        exact join_ne m h2l HL.out.ne z.1 hz'
       ·exact⟨e5.os.trans hlow.os,e5.tape.trans hlow.tape,e5.output.trans hlow.output,Nat.le_trans hlow.size e5.size,fun b hb=>(e5.block b (Nat.lt_of_lt_of_le hb hlow.size) (by omega) (by omega)).trans (hlow.block b hb)⟩
      clear hv hgb hmc hmx hbk hcs hct hinv hsum hjw hjinv hjns hrm hbd hlt hsm h2l hm1
      go_wp2_with fail
      refine HJ.out.mono ?_
      rintro e w5 ⟨v5,m5,rfl,h51,h52,h53,h54,h55⟩
      obtain⟨x5,q5,rfl,hl5,hr5,hlp5⟩:=HNX.out v5 m5 w5 h51 h52 h53 h54 h55
      have R5:=hideH hr5
      have L5:=hideH hlp5
      have E5:=hideH hl5
      clear h51 h52 h53 h54 h55 hr5 hlp5 hl5 HJ HNX
      go_wp2_with fail
      go_roundw
      case rel=>exact⟨m5,_,x5,k2+1,q5,rfl,E5.out,by omega,R5.out,L5.out⟩
      case measure=>simp
     ·have h2':decide ((1:Int)<(k:Int))=false:=by simp;omega
      have HF:Hid (depths c=d):=HRU.out.trans (run_done _ _ _ (by rw[mt_length,<-HKM.out];omega))
      have I3:Hid (IsI wr w.heap.size 2 (up (depths c))):=by rw[HF.out];exact HL.out.len
      have B3:=hideH HL.out.low
      clear HRU HL HKM HF HINV HNS HDE
      go_wp2_with fail
      generalize wr=w4 at I3 B3 ⊢
      have DL:=hideH ((depths_length c).trans HN.out)
      generalize hD:depths c=D at I3 DL
      have HD:=hideH hD
      clear hD
      generalize w4=wz at I3 B3 ⊢
      go_loopw [8,7] (fun iv mv wr=>∃ i:Nat,iv=.int .i64 i/\i<=j/\mv=.int .i64 (mxN D i:Nat)/\wr=wz) (fun iv _ _=>j-(intOf iv).toNat)
      case atStart=>exact⟨0,rfl,Nat.zero_le _,rfl,rfl⟩
      case round =>
       obtain⟨i,rfl,hi3,rfl,hw⟩:=hrel
       subst wr
       by_cases hlt3:i<j
       ·have hil:i<D.length:=by rw[DL.out];exact hlt3
        have ci:wz.cell? ⟨w.heap.size,i,none⟩=some (.int .i64 (D.getD i 0:Nat)):=by
         rw[I3.out.cell (j:=i) (by rw[up_length];exact hil),up_at _ _ hil]
        have NX:Hid (mxN D (i+1)=max (mxN D i) (D.getD i 0)):=rfl
        have hii:(i:Int)<j:=by omega
        generalize D.getD i 0=x at ci NX
        generalize mxN D i=p at NX ⊢
        clear hil
        go_wp2_with fail
        refine(max_any p x wz).mono ?_
        rintro e w8 ⟨rfl,hw8⟩
        subst w8
        go_wp2_with fail
        go_roundw
        case rel=>exact⟨i+1,by go_num,by omega,by rw[NX.out],by trivial⟩
        case measure=>simp[intOf];omega
       ·obtain rfl:i=j:=by omega
        go_wp2_with fail
        go_ret2
        exact⟨by rw[HD.out];rfl,by rw[HD.out];exact I3.out,B3.out⟩
end Go.Proofs.YtjfdllgodijibaaGreatDoor.Hf


namespace Go.Proofs.YtjfdllgodijibaaGreatDoor.Hf
open Go.RowKit
open In (IsI IsO irow Ints OwnI)
open Bi (within within_yes)
open Ap (Own0 wpList_append_own0k)
def midG (c:List Nat) (j:Nat):List Nat:=(flat c).take j++c.drop j
theorem midG_length (c:List Nat) (j:Nat) (h:j<=c.length):(midG c j).length=c.length:=by
 unfold midG
 rw[List.length_append,List.length_take,flat_length,List.length_drop]
 omega
theorem midG_at (c:List Nat) (j:Nat) (h:j<c.length):(midG c j)[j]? = some c[j]:=by
 unfold midG
 have hl:((flat c).take j).length=j:=by rw[List.length_take,flat_length];omega
 rw[List.getElem?_append_right (by omega),hl,Nat.sub_self,List.getElem?_drop,Nat.add_zero,List.getElem?_eq_getElem h]
theorem midG_next (c:List Nat) (j:Nat) (h:j<c.length):(midG c j).set j (if 0<c[j] then c[j]/2+1 else 0)=midG c (j+1):=by
 have hf:(flat c)[j]'(by rw[flat_length];exact h)=if 0<c[j] then c[j]/2+1 else 0:=by
  unfold flat
  rw[List.getElem_map]
 have hl:((flat c).take j).length=j:=by rw[List.length_take,flat_length];omega
 unfold midG
 rw[<-hf,List.set_append,if_neg (by omega),hl,Nat.sub_self,List.drop_eq_getElem_cons h,List.set_cons_zero,List.take_add_one,List.getElem?_eq_getElem (by rw[flat_length];exact h),List.append_assoc]
 rfl
theorem midG_yes (c:List Nat) (j:Nat) (h:j<c.length) (h0:0<c[j]):(midG c j).set j (c[j]/2+1)=midG c (j+1):=by
 have:=midG_next c j h
 rw[if_pos h0]at this
 exact this
theorem midG_no (c:List Nat) (j:Nat) (h:j<c.length) (h0:¬0<c[j]):midG c j=midG c (j+1):=by
 have:=midG_next c j h
 rw[if_neg h0]at this
 rw[<-this]
 have e:(midG c j)[j]? = some 0:=by rw[midG_at c j h];congr 1;omega
 obtain⟨h1,h2⟩:=List.getElem?_eq_some_iff.1 e
 apply List.ext_getElem?
 intro i
 rw[List.getElem?_set]
 by_cases hi:j=i
 ·subst hi
  rw[if_pos rfl,if_pos h1,e]
 ·rw[if_neg hi]
theorem midG_zero (c:List Nat):midG c 0=c:=by
 unfold midG
 simp
theorem midG_all (c:List Nat):midG c c.length=flat c:=by
 unfold midG
 rw[List.drop_length,List.append_nil,List.take_of_length_le (by rw[flat_length];exact Nat.le_refl _)]
theorem up_news {W:World} {b off:Nat} {l:List Int} (hc:∀ j (h:j<l.length),W.cell? ⟨b,off+j,none⟩=some (.int .i64 l[j])):∀ j u,(l.map (Value.int .i64))[j]? = some u->W.cell? ((⟨b,off,none⟩:Addr).add j)=some u:=by
 intro j u hu
 have hj:j<l.length:=by
  have:=(List.getElem?_eq_some_iff.1 hu).1
  rwa[List.length_map]at this
 rw[List.getElem?_map,List.getElem?_eq_getElem hj]at hu
 rw[Addr.add_lit,hc j hj]
 exact hu
theorem ints_one (l:List Int):∀ u∈l.map (Value.int .i64),u.oneCell'=true:=by
 intro u hu
 obtain⟨x,_,rfl⟩:=List.mem_map.1 hu
 rfl
theorem ofS_any (a:Option Addr) (cap n:Nat) (c0:List Nat) (w:World) (h:Ints w w.heap.size a (up c0)) (hn:c0.length=n) (h0:0<n) (h257:n<=257) (hm:∀ x∈c0,x<=10000) :
  Calls Tryz.prog 84 #[.slice a n cap] w fun e w'=>∃ v,e=.returned v/\OwnI w' w.heap.size v (up (lenOf c0))/\Below w.heap.size w w':=by
 obtain⟨i0,hi,hz0,hz1,hz2⟩:=info_parts In.Tryz.infoI2
 have HN:=hideH hn
 obtain⟨b,off,rfl,hbz,hcl⟩:=h.some (by rw[up_length];omega)
 have HCL:=hideH (fun (W:World) (hW:Below w.heap.size w W)=>up_news (W:=W) fun j hj=>(hW.cell (p:=⟨b,off+j,none⟩) hbz).trans (hcl j hj))
 have HM:=hideH hm
 have HLU:Hid ((up c0).length=n):=by unfold Hid;rw[up_length];exact hn
 obtain⟨R,hR⟩:∃ R,R=lenOf c0:=⟨_,rfl⟩
 have HRR:=hideH hR
 rw[<-hR]
 clear hR hm hn h hcl
 go_enter Tryz.func84,Tryz.ntmps84
 go_wp2_with (at_builtin;refine wpList_append_own0k _ rfl (.tmp 7) (.tmp 8) 44 rfl w.heap.size 2 i0 (.int .i64 0) 1 8 Tryz.underlying44 hi hz0 hz1 hz2 rfl (by decide) _ 0 [] rfl (.inl ⟨_,rfl,rfl,rfl⟩) ⟨b,off,none⟩ n cap ((up c0).map (Value.int .i64)) rfl (by rw[List.length_map,HLU.out];omega) (HCL.out _ ((Below.refl _ _).alloc (Nat.le_refl _) _)) (ints_one _) h0 (by unfold maxLen;omega) (by omega) (by simp) ?_)
 intro v1 w1 hown hbel _
 have O1:Hid (OwnI w1 w.heap.size v1 (up c0)):=by
  unfold Hid OwnI
  rw[HLU.out]
  simpa using hown
 have B1:Hid (Below w.heap.size w w1):=((Below.refl _ _).alloc (Nat.le_refl _) _).trans (hbel _ (Nat.le_refl _))
 clear hown hbel HCL
 obtain⟨gx,q,hv,hgx,hnq,ho⟩:∃ g cap,v1=.slice (some ⟨g,0,none⟩) (up c0).length cap/\w.heap.size<=g/\(up c0).length<=cap/\IsO w1 g 2 (up c0):=by
  rcases O1.out.split with⟨_,h⟩|h
  ·have:=HLU.out
   rw[h]at this
   simp at this
   omega
  ·exact h
 rw[HLU.out]at hv
 subst hv
 have X1:=hideH ho
 clear ho hnq O1
 go_wp2_with fail
 go_loopw [4,5,6] (fun _ _ _ wr=>∃ c:List Nat,c.length=n/\(∀ y∈c,y<=10000)/\R=lenOf c/\IsO wr gx 2 (up c)/\Below w.heap.size w wr) (fun _ _ _ wr=>sumAt wr (.slice (some ⟨gx,0,none⟩) n q))
 case atStart=>exact⟨c0,HN.out,HM.out,HRR.out,X1.out,B1.out⟩
 case round =>
  obtain⟨c,hcn,hcm,hcr,hxo,hbw⟩:=hrel
  have CN:=hideH hcn
  have CM:=hideH hcm
  have CR:=hideH hcr
  have XO:=hideH hxo
  have BW:=hideH hbw
  have hzw:=hbw.size
  have hgz:=hxo.lt
  have HOM:Hid (okay (depths c)=decide (mxN (depths c) n<=12)):=by
   unfold Hid
   rw[okay_mx,depths_length,hcn]
  clear hcn hcm hcr hxo hbw
  go_wp2_with fail
  refine(lensS_any (some ⟨gx,0,none⟩) q n c wr (XO.out.ints hgz) CN.out h257 CM.out).mono ?_
  rintro e w3 ⟨rfl,hi3,hb3⟩
  have I3:=hideH hi3
  have B3:=hideH (BW.out.trans (hb3.mono hzw))
  have X3:=hideH (XO.out.below hb3 hgz)
  have E3:=hideH (sumAt_ints (q:=q) (XO.out.ints hgz) CN.out)
  clear hi3 hb3
  by_cases hok:mxN (depths c) n<=12
  ·have hok':((mxN (depths c) n:Nat):Int)<=12:=by omega
   have HF:Hid (R=depths c):=CR.out.trans (lenOf_yes c (by rw[HOM.out];exact decide_eq_true hok))
   clear HOM hok
   generalize mxN (depths c) n=mx at hok' ⊢
   go_wp2_with fail
   go_ret
   exact⟨_,rfl,by rw[HF.out];exact own_of I3.out hzw (by rw[up_length,depths_length,CN.out]) (by omega),B3.out⟩
  ·have hok':decide (((mxN (depths c) n:Nat):Int)<=12)=false:=by simp;omega
   have hno:¬okay (depths c)=true:=by rw[HOM.out];simp;omega
   have HNO:=hideH (lenOf_no c (by have:=CN.out;omega) hno)
   have HLT:=hideH (flat_more c (by have:=CN.out;omega) hno)
   clear HOM hok hno I3
   generalize mxN (depths c) n=mx at hok' ⊢
   have hz3:=B3.out.size
   go_wp2_with fail
   go_loopw [6] (fun iv wr=>∃ j:Nat,iv=.int .i64 j/\j<=n/\IsO wr gx 2 (up (midG c j))/\Below w.heap.size w wr) (fun iv _=>n-(intOf iv).toNat)
   case atStart=>exact⟨0,rfl,Nat.zero_le _,by rw[midG_zero];exact X3.out,B3.out⟩
   case round =>
    obtain⟨j,rfl,hj,hoj,hbj⟩:=hrel
    have OJ:=hideH hoj
    have BJ:=hideH hbj
    clear hoj hbj
    by_cases hlt:j<n
    ·have hjc:j<c.length:=by rw[CN.out];exact hlt
     have hml:j<(midG c j).length:=by rw[midG_length c j (by omega)];exact hjc
     have ci:wr.cell? ⟨gx,j,none⟩=some (.int .i64 (c[j]:Nat)):=by
      rw[OJ.out.cell (j:=j) (by rw[up_length];exact hml),up_at _ _ hml,List.getD_eq_getElem?_getD,midG_at c j hjc]
      rfl
     have zl:=OJ.out.frozen j
     have HY:=hideH (midG_yes c j hjc)
     have HNN:=hideH (midG_no c j hjc)
     have hcm:=CM.out c[j] (List.getElem_mem hjc)
     have hjl:(j:Int)<n:=by omega
     generalize c[j]=cj at ci HY HNN hcm
     clear hml hjc
     by_cases hc0:0<cj
     ·have h0':(0:Int)<(cj:Int):=by omega
      have hq:(cj:Int).tdiv 2=((cj/2:Nat):Int):=by rw[Int.tdiv_eq_ediv_of_nonneg (by omega)];rfl
      go_wp2_with fail
      go_roundw
      case rel =>
       refine⟨j+1,by go_num,by omega,?_,BJ.out.setCell (by simp;omega) _⟩
       rw[<-HY.out hc0,<-up_set]
       exact OJ.out.set j _
      case measure=>simp[intOf];omega
     ·have h0':cj=0:=by omega
      subst h0'
      go_wp2_with fail
      go_roundw
      case rel=>exact⟨j+1,by go_num,by omega,by rw[<-HNN.out hc0];exact OJ.out,BJ.out⟩
      case measure=>simp[intOf];omega
    ·obtain rfl:j=n:=by omega
     have OF:Hid (IsO wr gx 2 (up (flat c))):=by
      have:=OJ.out
      rw[<-CN.out,midG_all]at this
      exact this
     have FN:Hid ((flat c).length=j):=by rw[flat_length];exact CN.out
     go_wp2_with fail
     go_roundw
     case rel=>exact⟨flat c,FN.out,flat_small c CM.out,CR.out.trans HNO.out,OF.out,BJ.out⟩
     case measure =>
      have e2:=sumAt_ints (q:=q) (OF.out.ints OF.out.lt) FN.out
      have e3:=HLT.out
      rw[<-E3.out,<-e2]at e3
      exact e3
theorem own_none (W:World):OwnI (W.alloc (.cells #[] 2)) W.heap.size (.slice (some ⟨W.heap.size,0,none⟩) 0 0) [] :=
 ⟨rfl,.inr ⟨W.heap.size,0,#[],rfl,Nat.le_refl _,heap_alloc_new W _,Nat.le_refl _,by unfold maxLen;omega,rfl,rfl⟩⟩
end Go.Proofs.YtjfdllgodijibaaGreatDoor.Hf

