/- Texts put together: GetTextSpec, LsRead, LsReadW, KpPlain, KpPath, KpRow, PeNine, KpPut, PeSz, KpInner, KpRec, KpFind, KpText. -/
import Derived.Test.YtpddanmnlkcdpaaGreatDoorHz25
import Derived.Test.YtpddanmnlkcdpaaGreatDoorHz26
import Derived.Test.YtpddanmnlkcdpaaGreatDoorHz22
import Derived.Test.YtpddanmnlkcdpaaGreatDoorHz18
import Derived.Test.YtpddanmnlkcdpaaGreatDoorHz13
import Derived.Laws.OwnMore
import Derived.Test.YtpddanmnlkcdpaaGreatDoorHz30
import Derived.Test.YtpddanmnlkcdpaaGreatDoorHz29
import Derived.Deep.RegionHeld3
import Derived.Lib.QuietBelow
import Derived.BigQuiet
set_option maxRecDepth 100000
set_option maxHeartbeats 8000000
namespace Go.Proofs.YtpddanmnlkcdpaaGreatDoor.Gn
open Go.RowKit
theorem text_spec (s:ByteArray) (a:Int) (w:World) (hs:s.size<=maxLen) :
  Calls Tryz.prog 130 #[.string s,.int .i64 a] w fun e w'=>e=.returned (textV s a)/\Below w.heap.size w w':=by
 obtain⟨⟨n,p,c⟩,hr⟩:∃ r,rd s a=r:=⟨_,rfl⟩
 have hgv:=getV_of s a n p c hr
 by_cases h0:c=0
 ·subst h0
  rw[if_pos rfl]at hgv
  have HGV:=hide hgv
  obtain⟨hs8,hp⟩:=rd_place s a (by rw[hr])
  rw[hr]at hp
  simp only at hp
  clear hgv
  by_cases hn:n<0∨8000<n
  ·have HT:=hide (textV_of s a _ _ _ (rt_size s a n p hr hn))
   clear hr
   by_cases hneg:n<0
   ·clear hn
    go_enter Tryz.func130,Tryz.ntmps130
    go_wp2_with fail
    refine(get_spec s a _ hs).mono ?_
    rw[HGV.out]
    simp only[outN]
    rintro e w1 ⟨rfl,hb1⟩
    obtain⟨hc1,hf1⟩:=bcell hb1
    have hz1:w.heap.size<w1.heap.size:=by have:=hb1.size;simp at this;omega
    have q0:w1.cell? ⟨w.heap.size,0,none⟩=some (.string ⟨#[]⟩):=by rw[hc1 _ _ (by simp)];simp
    have q1:w1.cell? ⟨w.heap.size,1,none⟩=some (.int .i64 0):=by rw[hc1 _ _ (by simp)];simp
    have q2:w1.cell? ⟨w.heap.size,2,none⟩=some (.int .i64 0):=by rw[hc1 _ _ (by simp)];simp
    have f0:∀ o,w1.frozen? ⟨w.heap.size,o,none⟩=false:=fun o=>by rw[hf1 _ _ (by simp)];simp
    have KB:=hide (((Below.refl w.heap.size w).alloc (Nat.le_refl _) _).trans (hb1.mono (by simp)))
    clear hc1 hf1
    go_wp2
    refine bodyPost_ret (v:=outT ⟨#[]⟩ 0 3) (by simp[results,outT,Tryz.results130,go_sem,q0,q1,q2,hz1]) rfl ⟨by rw[HT.out];rfl,?_⟩
    repeat (first|exact KB.out|exact((KB.out.setCell (Nat.le_refl _) _).setCell (Nat.le_refl _) _).setCell (Nat.le_refl _) _|refine Below.drew ?_|refine Below.alloc ?_ (by simp;omega) _)
   ·have hbig:(8000:Int)<n:=by omega
    clear hn
    go_enter Tryz.func130,Tryz.ntmps130
    go_wp2_with fail
    refine(get_spec s a _ hs).mono ?_
    rw[HGV.out]
    simp only[outN]
    rintro e w1 ⟨rfl,hb1⟩
    obtain⟨hc1,hf1⟩:=bcell hb1
    have hz1:w.heap.size<w1.heap.size:=by have:=hb1.size;simp at this;omega
    have q0:w1.cell? ⟨w.heap.size,0,none⟩=some (.string ⟨#[]⟩):=by rw[hc1 _ _ (by simp)];simp
    have q1:w1.cell? ⟨w.heap.size,1,none⟩=some (.int .i64 0):=by rw[hc1 _ _ (by simp)];simp
    have q2:w1.cell? ⟨w.heap.size,2,none⟩=some (.int .i64 0):=by rw[hc1 _ _ (by simp)];simp
    have f0:∀ o,w1.frozen? ⟨w.heap.size,o,none⟩=false:=fun o=>by rw[hf1 _ _ (by simp)];simp
    have KB:=hide (((Below.refl w.heap.size w).alloc (Nat.le_refl _) _).trans (hb1.mono (by simp)))
    clear hc1 hf1
    go_wp2
    refine bodyPost_ret (v:=outT ⟨#[]⟩ 0 3) (by simp[results,outT,Tryz.results130,go_sem,q0,q1,q2,hz1]) rfl ⟨by rw[HT.out];rfl,?_⟩
    repeat (first|exact KB.out|exact((KB.out.setCell (Nat.le_refl _) _).setCell (Nat.le_refl _) _).setCell (Nat.le_refl _) _|refine Below.drew ?_|refine Below.alloc ?_ (by simp;omega) _)
  ·obtain⟨m,rfl⟩:=Int.eq_ofNat_of_zero_le (show 0<=n from by omega)
   have hm8:m<=8000:=by omega
   have hnb:¬((8000:Int)<m):=by omega
   by_cases hl:s.size<p+m
   ·have HT:=hide (textV_of s a _ _ _ (rt_short s a m p hr hm8 hl))
    clear hn hr
    go_enter Tryz.func130,Tryz.ntmps130
    go_wp2_with fail
    refine(get_spec s a _ hs).mono ?_
    rw[HGV.out]
    simp only[outN]
    rintro e w1 ⟨rfl,hb1⟩
    obtain⟨hc1,hf1⟩:=bcell hb1
    have hz1:w.heap.size<w1.heap.size:=by have:=hb1.size;simp at this;omega
    have q0:w1.cell? ⟨w.heap.size,0,none⟩=some (.string ⟨#[]⟩):=by rw[hc1 _ _ (by simp)];simp
    have q1:w1.cell? ⟨w.heap.size,1,none⟩=some (.int .i64 0):=by rw[hc1 _ _ (by simp)];simp
    have q2:w1.cell? ⟨w.heap.size,2,none⟩=some (.int .i64 0):=by rw[hc1 _ _ (by simp)];simp
    have f0:∀ o,w1.frozen? ⟨w.heap.size,o,none⟩=false:=fun o=>by rw[hf1 _ _ (by simp)];simp
    have KB:=hide (((Below.refl w.heap.size w).alloc (Nat.le_refl _) _).trans (hb1.mono (by simp)))
    clear hc1 hf1
    go_wp2
    refine bodyPost_ret (v:=outT ⟨#[]⟩ 0 4) (by simp[results,outT,Tryz.results130,go_sem,q0,q1,q2,hz1]) rfl ⟨by rw[HT.out];rfl,?_⟩
    repeat (first|exact KB.out|exact((KB.out.setCell (Nat.le_refl _) _).setCell (Nat.le_refl _) _).setCell (Nat.le_refl _) _|refine Below.drew ?_|refine Below.alloc ?_ (by simp;omega) _)
   ·have HT:=hide (textV_of s a _ _ _ (rt_ok s a m p hr hm8 hl))
    have hwr:IntKind.i64.wrap ((p:Int)+m)=(p:Int)+m:=by rw[IntKind.wrap_i64];omega
    have hsl:∀ u:World,(Instr.slice 9 (.string s) (some (.int .i64 (p:Int))) (some (.int .i64 ((p:Int)+m))) none).run Tryz.prog u=.ok (.string (s.extract p (p+m))) u:=fun u=>by
     rw[run_slice_string u 9 s .i64 .i64 _ _ Tryz.underlying9 (by omega) (by omega) (by omega)]
     rw[Int.toNat_natCast,show ((p:Int)+m).toNat=p+m from by omega]
    clear hn hr
    go_enter Tryz.func130,Tryz.ntmps130
    go_wp2_with fail
    refine(get_spec s a _ hs).mono ?_
    rw[HGV.out]
    simp only[outN]
    rintro e w1 ⟨rfl,hb1⟩
    obtain⟨hc1,hf1⟩:=bcell hb1
    have hz1:w.heap.size<w1.heap.size:=by have:=hb1.size;simp at this;omega
    have q0:w1.cell? ⟨w.heap.size,0,none⟩=some (.string ⟨#[]⟩):=by rw[hc1 _ _ (by simp)];simp
    have q1:w1.cell? ⟨w.heap.size,1,none⟩=some (.int .i64 0):=by rw[hc1 _ _ (by simp)];simp
    have q2:w1.cell? ⟨w.heap.size,2,none⟩=some (.int .i64 0):=by rw[hc1 _ _ (by simp)];simp
    have f0:∀ o,w1.frozen? ⟨w.heap.size,o,none⟩=false:=fun o=>by rw[hf1 _ _ (by simp)];simp
    have KB:=hide (((Below.refl w.heap.size w).alloc (Nat.le_refl _) _).trans (hb1.mono (by simp)))
    clear hc1 hf1
    go_wp2
    go_region
    go_wp2
    refine bodyPost_ret (v:=outT (s.extract p (p+m)) ((p:Int)+m) 0) (by simp[results,outT,Tryz.results130,go_sem,q0,q1,q2,hz1]) rfl ⟨by rw[HT.out];rfl,?_⟩
    repeat (first|exact KB.out|exact((KB.out.setCell (Nat.le_refl _) _).setCell (Nat.le_refl _) _).setCell (Nat.le_refl _) _|refine Below.drew ?_|refine Below.alloc ?_ (by simp;omega) _)
 ·rw[if_neg h0]at hgv
  have HGV:=hide hgv
  have HT:=hide (textV_of s a _ _ _ (rt_bad s a n p c hr h0))
  have hcn:(c != 0)=true:=by rw[bne_iff_ne];exact h0
  clear hgv hr h0
  go_enter Tryz.func130,Tryz.ntmps130
  go_wp2_with fail
  refine(get_spec s a _ hs).mono ?_
  rw[HGV.out]
  simp only[outN]
  rintro e w1 ⟨rfl,hb1⟩
  obtain⟨hc1,hf1⟩:=bcell hb1
  have hz1:w.heap.size<w1.heap.size:=by have:=hb1.size;simp at this;omega
  have q0:w1.cell? ⟨w.heap.size,0,none⟩=some (.string ⟨#[]⟩):=by rw[hc1 _ _ (by simp)];simp
  have q1:w1.cell? ⟨w.heap.size,1,none⟩=some (.int .i64 0):=by rw[hc1 _ _ (by simp)];simp
  have q2:w1.cell? ⟨w.heap.size,2,none⟩=some (.int .i64 0):=by rw[hc1 _ _ (by simp)];simp
  have f0:∀ o,w1.frozen? ⟨w.heap.size,o,none⟩=false:=fun o=>by rw[hf1 _ _ (by simp)];simp
  have KB:=hide (((Below.refl w.heap.size w).alloc (Nat.le_refl _) _).trans (hb1.mono (by simp)))
  clear hc1 hf1
  go_wp2
  refine bodyPost_ret (v:=outT ⟨#[]⟩ 0 c) (by simp[results,outT,Tryz.results130,go_sem,q0,q1,q2,hz1]) rfl ⟨by rw[HT.out];rfl,?_⟩
  repeat (first|exact KB.out|exact((KB.out.setCell (Nat.le_refl _) _).setCell (Nat.le_refl _) _).setCell (Nat.le_refl _) _|refine Below.drew ?_|refine Below.alloc ?_ (by simp;omega) _)
end Go.Proofs.YtpddanmnlkcdpaaGreatDoor.Gn


/- ListRead: what both sides answer. -/
namespace Go.Proofs.YtpddanmnlkcdpaaGreatDoor.Ls
open Go.RowKit
open Gn (rd getV getV_rd outN handle rt outT textV numR run run_end handle_below rd_codes)
theorem num_all (s:ByteArray) (a:Int):getV s a=.agg #[.int .i64 (rd s a).1,.int .i64 (rd s a).2.1,.int .i64 (rd s a).2.2]:=by
 rw[getV_rd]
 rcases rd_codes s a with h|⟨h,h1,h2⟩
 ·rw[if_pos h,h]
  rfl
 ·rw[if_neg h,h1,h2]
  rfl
theorem text_all (s:ByteArray) (a:Int):textV s a=.agg #[.string (rt s a).1,.int .i64 (rt s a).2.1,.int .i64 (rt s a).2.2]:=rfl
def zR (s:ByteArray):Int:=(rd s 0).1
def bR (s:ByteArray):Int:=(rd s (rd s 0).2.1).1
def rR (s:ByteArray):ByteArray:=(rt s (rd s (rd s 0).2.1).2.1).1
def okR (s:ByteArray):Prop:=¬s.size=0/\bytesL (zR s) (bR s) (rR s)=s
noncomputable def readV (s:ByteArray):Value:=open Classical in if 8000<s.size then oV 0 0 ⟨#[]⟩ 2 else if okR s then oV (zR s) (bR s) (rR s) 0 else oV 0 0 ⟨#[]⟩ 3
theorem set_j3 {W:World} {g:Nat} {x y z:Value} {T:TypeId} (h:W.heap[g]? = some (.cells #[x,y,z] T (0,0))) (v:Value):(W.setCell ⟨g,0,none⟩ v).heap[g]? = some (.cells #[v,y,z] T (0,0))/\(W.setCell ⟨g,1,none⟩ v).heap[g]? = some (.cells #[x,v,z] T (0,0))/\(W.setCell ⟨g,2,none⟩ v).heap[g]? = some (.cells #[x,y,v] T (0,0)):=by
 refine⟨?_,?_,?_⟩
 ·rw[heap_setCell_same W g 0 _ T v h];rfl
 ·rw[heap_setCell_same W g 1 _ T v h];rfl
 ·rw[heap_setCell_same W g 2 _ T v h];rfl
theorem set3_all {W:World} {g:Nat} {x y z:Value} {T:TypeId} (h:W.heap[g]? = some (.cells #[x,y,z] T (0,0))) (a b c:Value) :
  (((W.setCell ⟨g,0,none⟩ a).setCell ⟨g,1,none⟩ b).setCell ⟨g,2,none⟩ c).cell? ⟨g,0,none⟩=some a/\(((W.setCell ⟨g,0,none⟩ a).setCell ⟨g,1,none⟩ b).setCell ⟨g,2,none⟩ c).cell? ⟨g,1,none⟩=some b/\(((W.setCell ⟨g,0,none⟩ a).setCell ⟨g,1,none⟩ b).setCell ⟨g,2,none⟩ c).cell? ⟨g,2,none⟩=some c:=cells3 (set_j3 (set_j3 (set_j3 h a).1 b).2.1 c).2.2
end Go.Proofs.YtpddanmnlkcdpaaGreatDoor.Ls


/- The walks of ListRead. -/
namespace Go.Proofs.YtpddanmnlkcdpaaGreatDoor.Ls
open Go.RowKit
open Gn (rd getV handle rt textV handle_below handle_alloc)
def HH (w:World):Prop:=w.cell? ⟨1,0,none⟩=some handle
theorem hh_keep {w w':World} (h:HH w) (hb:Below w.heap.size w w'):HH w':=handle_below hb h
end Go.Proofs.YtpddanmnlkcdpaaGreatDoor.Ls


/- What is kept: records and logs in plain words. -/
namespace Go.Proofs.YtpddanmnlkcdpaaGreatDoor.Kp
open Go.RowKit
open Gn (rd rt run numR run_place rd_place)
theorem run_more (s:ByteArray):∀ f k p u,(run s f k p u).2.2=0->p<(run s f k p u).2.1:=by
 intro f
 induction f with
 |zero=>intro k p u h;exact absurd h (by rw[run];decide)
 |succ f ih =>
  intro k p u
  rw[run]
  split
  ·intro h;exact absurd h (by decide)
  ·split
   ·intro h;exact absurd h (by decide)
   ·split
    ·split
     ·intro h;exact absurd h (by decide)
     ·intro _;exact Nat.lt_succ_self _
    ·intro h
     have:=ih _ _ _ h
     omega
theorem rd_more (s:ByteArray) (a:Int) (h:(rd s a).2.2=0):a.toNat<(rd s a).2.1/\(rd s a).2.1<=s.size/\s.size<=8000:=by
 have h1:=rd_place s a h
 refine⟨?_,h1.2,h1.1⟩
 unfold rd at h ⊢
 split at h
 ·exact absurd h (by decide)
 ·split at h
  ·exact absurd h (by decide)
  ·rename_i h1 h2
   rw[if_neg h1,if_neg h2]
   exact run_more s 10 0 a.toNat 0 h
theorem rt_more (s:ByteArray) (a:Int) (h:(rt s a).2.2=0):a.toNat<(rt s a).2.1/\(rt s a).2.1<=s.size/\s.size<=8000/\(rt s a).1.size<=8000:=by
 unfold rt at h ⊢
 split at h
 ·rename_i h1
  exact absurd h h1
 ·rename_i h1
  have h1':(rd s a).2.2=0:=Decidable.not_not.1 h1
  have hm:=rd_more s a h1'
  split at h
  ·exact absurd h (by decide)
  ·rename_i h2
   split at h
   ·exact absurd h (by decide)
   ·rename_i h3
    rw[if_neg h1,if_neg h2,if_neg h3]
    refine⟨?_,?_,hm.2.2,?_⟩
    ·show a.toNat<(rd s a).2.1+(rd s a).1.toNat
     omega
    ·show (rd s a).2.1+(rd s a).1.toNat<=s.size
     omega
    ·show (s.extract _ _).size<=8000
     rw[ByteArray.size_extract]
     omega
abbrev Rec:=Int × ByteArray × List ByteArray
def pathR (s:ByteArray):Nat->Nat->List ByteArray->Option (List ByteArray × Nat)
 |0,e,l=>some (l,e)
 |n+1,e,l=>if (rt s e).2.2=0 then pathR s n (rt s e).2.1 (l++[(rt s e).1]) else none
theorem pathR_yes {s:ByteArray} {n e:Nat} {l:List ByteArray} (h:(rt s e).2.2=0):pathR s (n+1) e l=pathR s n (rt s e).2.1 (l++[(rt s e).1]):=by
 rw[pathR,if_pos h]
theorem pathR_no {s:ByteArray} {n e:Nat} {l:List ByteArray} (h:¬(rt s e).2.2=0):pathR s (n+1) e l=none:=by
 rw[pathR,if_neg h]
theorem pathR_facts {s:ByteArray}:∀ {n e:Nat} {l:List ByteArray} {q:List ByteArray × Nat},pathR s n e l=some q->q.1.length=l.length+n/\e<=q.2
 |0,e,l,q,h=>by
  rw[pathR]at h
  cases h
  exact⟨rfl,Nat.le_refl _⟩
 |n+1,e,l,q,h=>by
  by_cases hc:(rt s e).2.2=0
  ·rw[pathR_yes hc]at h
   have h1:=pathR_facts h
   have h2:=(rt_more s e hc).1
   rw[List.length_append]at h1
   simp at h1 h2
   omega
  ·rw[pathR_no hc]at h
   cases h
def innerOk (s:ByteArray):Prop:=(rd s 0).2.2=0/\(rt s (rd s 0).2.1).2.2=0/\(rd s (rt s (rd s 0).2.1).2.1).2.2=0/\0<=(rd s (rt s (rd s 0).2.1).2.1).1/\(rd s (rt s (rd s 0).2.1).2.1).1<=20
instance (s:ByteArray):Decidable (innerOk s):=by unfold innerOk;infer_instance
def innerR (s:ByteArray):Option Rec :=
 if innerOk s then
  match pathR s (rd s (rt s (rd s 0).2.1).2.1).1.toNat (rd s (rt s (rd s 0).2.1).2.1).2.1 [] with
  |some q=>if q.2=s.size then some ((rd s 0).1,(rt s (rd s 0).2.1).1,q.1) else none
  |none=>none
 else none
def usT (s:ByteArray):ByteArray:=if 8000<s.size then ⟨#[]⟩ else if s.size<4 then ⟨#[]⟩ else if Se.sealV (s.extract 0 (s.size-4))=s then s.extract 0 (s.size-4) else ⟨#[]⟩
def usC (s:ByteArray):Int:=if 8000<s.size then 2 else if s.size<4 then 4 else if Se.sealV (s.extract 0 (s.size-4))=s then 0 else 5
theorem unseal_all (s:ByteArray):Se.unsealV s=.agg #[.string (usT s),.int .i64 0,.int .i64 (usC s)]:=by
 unfold Se.unsealV usT usC
 split
 ·rfl
 ·split
  ·rfl
  ·split
   ·rfl
   ·rfl
def recR (s:ByteArray) (e:Nat):Option (Rec × Nat) :=
 if (rt s e).2.2=0/\usC (rt s e).1=0 then (innerR (usT (rt s e).1)).map (fun r=>(r,(rt s e).2.1)) else none
theorem innerR_facts {s:ByteArray} {r:Rec} (h:innerR s=some r):r.2.2.length<=20/\r.2.1.size<=8000/\s.size<=8000:=by
 unfold innerR at h
 split at h
 ·rename_i hok
  obtain⟨h1,h2,h3,h4,h5⟩:=hok
  split at h
  ·rename_i q hq
   have hf:=pathR_facts hq
   split at h
   ·cases h
    have:=rt_more _ _ h2
    refine⟨?_,this.2.2.2,this.2.2.1⟩
    show q.1.length<=20
    rw[hf.1]
    simp
    omega
   ·cases h
  ·cases h
 ·cases h
theorem recR_facts {s:ByteArray} {e:Nat} {x:Rec × Nat} (h:recR s e=some x):e<x.2/\x.2<=s.size/\s.size<=8000/\x.1.2.2.length<=20/\x.1.2.1.size<=8000:=by
 unfold recR at h
 split at h
 ·rename_i hc
  have h1:=rt_more s e hc.1
  obtain⟨r,hr,rfl⟩:=Option.map_eq_some_iff.1 h
  have h2:=innerR_facts hr
  exact⟨by simpa using h1.1,h1.2.1,h1.2.2.1,h2.1,h2.2.1⟩
 ·cases h
def hasR (out:List Rec) (i:Int):Bool:=out.any fun r=>r.1==i
def goR (fit:Rec->Bool) (s:ByteArray):Nat->List Rec->Nat->List Rec × Nat
 |0,out,e=>(out,e)
 |f+1,out,e=>if e<s.size then
   match recR s e with
   |some x=>if fit x.1=true/\hasR out x.1.1=false then goR fit s f (out++[x.1]) x.2 else (out,e)
   |none=>(out,e)
  else (out,e)
theorem goR_end {fit:Rec->Bool} {s:ByteArray} {f e:Nat} {out:List Rec} (h:s.size<=e):goR fit s f out e=(out,e):=by
 cases f with
 |zero=>rfl
 |succ f=>rw[goR,if_neg (by omega)]
theorem goR_none {fit:Rec->Bool} {s:ByteArray} {f e:Nat} {out:List Rec} (h:recR s e=none):goR fit s f out e=(out,e):=by
 cases f with
 |zero=>rfl
 |succ f =>
  rw[goR,h]
  split<;>rfl
theorem goR_bad {fit:Rec->Bool} {s:ByteArray} {f e:Nat} {out:List Rec} {x:Rec × Nat} (h:recR s e=some x) (hb:¬(fit x.1=true/\hasR out x.1.1=false)):goR fit s f out e=(out,e):=by
 cases f with
 |zero=>rfl
 |succ f =>
  rw[goR,h]
  split
  ·exact if_neg hb
  ·rfl
theorem goR_fuel {fit:Rec->Bool} {s:ByteArray}:∀ (f g e:Nat) (out:List Rec),s.size-e<=f->s.size-e<=g->goR fit s f out e=goR fit s g out e:=by
 intro f
 induction f with
 |zero=>intro g e out h1 h2;rw[goR_end (by omega),goR_end (by omega)]
 |succ f ih =>
  intro g e out h1 h2
  by_cases he:e<s.size
  ·cases g with
   |zero=>omega
   |succ g =>
    rw[goR,goR,if_pos he,if_pos he]
    cases hr:recR s e with
    |none=>rfl
    |some x =>
     have:=recR_facts hr
     show (if _ then _ else _)=(if _ then _ else _)
     split
     ·exact ih g x.2 _ (by omega) (by omega)
     ·rfl
  ·rw[goR_end (by omega),goR_end (by omega)]
theorem goR_step {fit:Rec->Bool} {s:ByteArray} {e:Nat} {out:List Rec} {x:Rec × Nat} (h:recR s e=some x) (h1:fit x.1=true) (h2:hasR out x.1.1=false):goR fit s (s.size-e) out e=goR fit s (s.size-x.2) (out++[x.1]) x.2:=by
 have hf:=recR_facts h
 obtain⟨k,hk⟩:∃ k,s.size-e=k+1:=⟨s.size-e-1,by omega⟩
 rw[hk,goR,if_pos (by omega),h]
 show (if _ then _ else _)=_
 rw[if_pos ⟨h1,h2⟩]
 exact goR_fuel _ _ _ _ (by omega) (Nat.le_refl _)
def allR (fit:Rec->Bool) (s:ByteArray):List Rec × Nat:=goR fit s (s.size-0) [] 0
theorem goR_le {fit:Rec->Bool} {s:ByteArray}:∀ (f e:Nat) (out:List Rec),e<=s.size->e<=(goR fit s f out e).2/\(goR fit s f out e).2<=s.size:=by
 intro f
 induction f with
 |zero=>intro e out h;exact⟨Nat.le_refl _,h⟩
 |succ f ih =>
  intro e out h
  by_cases he:e<s.size
  ·rw[goR,if_pos he]
   cases hr:recR s e with
   |none=>exact⟨Nat.le_refl _,h⟩
   |some x =>
    have hf:=recR_facts hr
    show e<=(if _ then _ else _:List Rec × Nat).2/\(if _ then _ else _:List Rec × Nat).2<=_
    split
    ·have:=ih x.2 (out++[x.1]) hf.2.1
     omega
    ·exact⟨Nat.le_refl _,h⟩
  ·rw[goR_end (by omega)]
   exact⟨Nat.le_refl _,h⟩
theorem goR_many {fit:Rec->Bool} {s:ByteArray}:∀ (f e:Nat) (out:List Rec),out.length<=e->(goR fit s f out e).1.length<=(goR fit s f out e).2:=by
 intro f
 induction f with
 |zero=>intro e out h;exact h
 |succ f ih =>
  intro e out h
  by_cases he:e<s.size
  ·rw[goR,if_pos he]
   cases hr:recR s e with
   |none=>exact h
   |some x =>
    have hf:=recR_facts hr
    show (if _ then _ else _:List Rec × Nat).1.length<=(if _ then _ else _:List Rec × Nat).2
    split
    ·exact ih x.2 (out++[x.1]) (by rw[List.length_append];simp;omega)
    ·exact h
  ·rw[goR_end (by omega)]
   exact h
theorem allR_many (fit:Rec->Bool) (s:ByteArray):(allR fit s).1.length<=(allR fit s).2:=goR_many _ _ _ (Nat.zero_le _)
theorem allR_le (fit:Rec->Bool) (s:ByteArray):(allR fit s).2<=s.size:=(goR_le _ _ _ (Nat.zero_le _)).2
end Go.Proofs.YtpddanmnlkcdpaaGreatDoor.Kp


namespace Go.Proofs.YtpddanmnlkcdpaaGreatDoor.Kp
open Go.RowKit
open Gn (rd rt tupV errV readText_any)
open St (OwnS one_newS one_cellS app_one)
theorem readPath_any (s:ByteArray) (e n:Nat) (w:World) (hs:s.size<=maxLen) (hn:n<=20) :
  Calls Tryz.prog 173 #[.string s,.int .i64 e,.int .i64 n] w fun r w' =>
   ((∃ q v,pathR s n e []=some q/\r=.returned (.tuple #[v,.int .i64 q.2,.nilIface])/\OwnS w' w.heap.size v q.1) ∨
   (pathR s n e []=none/\∃ c,r=.returned (.tuple #[.slice none 0 0,.int .i64 0,.iface 235 (.agg #[.int .i64 c])])))/\Below w.heap.size w w':=by
 obtain⟨i0,hif,hz0,hz1,hz2⟩:=info_parts St.Tryz.infoS9
 go_enter Tryz.func173,Tryz.ntmps173
 go_wp2_with fail
 go_loopw [14,1,9,10,11,12] (fun jv ev tv _ _ _ wr=>∃ (j e1:Nat) (l:List ByteArray),jv=.int .i64 j/\ev=.int .i64 e1/\j<=n/\l.length=j/\pathR s n e []=pathR s (n-j) e1 l/\OwnS wr w.heap.size tv l/\Below w.heap.size w wr) (fun jv _ _ _ _ _ _=>n-(intOf jv).toNat)
 case atStart=>exact⟨0,e,[],rfl,rfl,Nat.zero_le _,rfl,rfl,OwnS.nil _ _,Below.refl _ _⟩
 case round =>
  obtain⟨j,e1,l,rfl,rfl,hj,hl,hp,ho,hbw⟩:=hrel
  have O:=hideK ho
  have BW:=hideK hbw
  have HP:=hideK hp
  have HL:=hideK hl
  have hzr:=hbw.size
  clear ho hbw hp hl
  by_cases hlt:j<n
  ·have hlt':(j:Int)<(n:Int):=by omega
   have hnj:n-j=(n-(j+1))+1:=by omega
   have HNJ:=hideK hnj
   clear hnj
   have HRT:=hideK (fun W=>readText_any s e1 W hs)
   unfold tupV at HRT
   have HY:=hideK (fun h=>pathR_yes (s:=s) (n:=n-(j+1)) (e:=e1) (l:=l) h)
   have HN:=hideK (fun h=>pathR_no (s:=s) (n:=n-(j+1)) (e:=e1) (l:=l) h)
   generalize rt s e1=x at HRT HY HN
   obtain⟨tx,p,c⟩:=x
   dsimp only at HRT HY HN
   by_cases hc:c=0
   ·have HY1:=hideK (HY.out hc)
    simp only[errV,if_pos hc]at HRT
    clear HY HN hc
    go_wp2_with fail
    refine(HRT.out _).mono ?_
    rintro e w3 ⟨rfl,hb⟩
    have O3:=hideK (O.out.below hb)
    have B3:=hideK (BW.out.trans (hb.mono hzr))
    have hz3:=B3.out.size
    clear hb O HRT
    go_wp2_with (at_builtin;refine wpList_append_own _ rfl (.tmp 26) (.tmp 28) 46 rfl w.heap.size 9 i0 (.string ⟨#[]⟩) 1 16 Tryz.underlying46 hif hz0 hz1 hz2 rfl (by decide) _ _ _ rfl (World.ownsRow.alloc O3.out _) ⟨w3.heap.size,0,none⟩ 1 1 [.string tx] rfl rfl (one_newS w3 _ _) (one_cellS _) (by rw[HL.out];unfold maxLen;omega) (by rw[HL.out];omega) (by simp;omega) ?_)
    intro v' w4 hown hgrow _
    have O4:=hideK (OwnS.snoc hown)
    have B4:=hideK (app_one B3.out hz3 (Nat.le_refl _) O3.out hgrow)
    clear hown hgrow
    go_wp2_with fail
    go_roundw
    case rel=>exact⟨j+1,p,l++[tx],by go_num,rfl,by omega,by rw[List.length_append,HL.out];rfl,by rw[HP.out,HNJ.out,HY1.out],O4.out,B4.out⟩
    case measure=>simp[intOf];omega
   ·have HN1:=hideK (HN.out hc)
    simp only[errV,if_neg hc]at HRT
    clear HY HN hc
    go_wp2_with fail
    refine(HRT.out _).mono ?_
    rintro e w3 ⟨rfl,hb⟩
    have B3:=hideK (BW.out.trans (hb.mono hzr))
    clear hb O HRT
    go_wp2_with fail
    go_ret3
    exact⟨.inr ⟨by rw[HP.out,HNJ.out,HN1.out],c,rfl⟩,B3.out⟩
  ·obtain rfl:j=n:=by omega
   have HE:Hid (pathR s j e []=some (l,e1)):=by
    unfold Hid
    rw[HP.out,Nat.sub_self,pathR]
   go_wp2_with fail
   go_ret3
   exact⟨.inl ⟨(l,e1),_,HE.out,rfl,O.out⟩,BW.out⟩
end Go.Proofs.YtpddanmnlkcdpaaGreatDoor.Kp


/- What is kept: the blocks that a walk has laid, and rows of records in memory. -/
namespace Go.Proofs.YtpddanmnlkcdpaaGreatDoor.Kp
open Go.RowKit
open St (IsO OwnS Strs)
open Ls (blkL lowL blk_alloc cells3)
abbrev MR:=Rec × Value
def recV (x:MR):Value:=.agg #[.int .i64 x.1.1,.string x.1.2.1,x.2]
def recZ:Value:=.agg #[.int .i64 0,.string ⟨#[]⟩,.slice none 0 0]
def cellsR:List MR->List Value
 |[]=>[]
 |x :: m=>.int .i64 x.1.1 :: .string x.1.2.1 :: x.2 :: cellsR m
theorem cellsR_append:∀ m k:List MR,cellsR (m++k)=cellsR m++cellsR k
 |[],k=>rfl
 |x :: m,k=>by
  rw[List.cons_append,cellsR,cellsR,cellsR_append m k]
  rfl
theorem cellsR_at:∀ (m:List MR) (i:Nat) (h:i<m.length),(cellsR m)[i*3]? = some (.int .i64 m[i].1.1)/\(cellsR m)[i*3+1]? = some (.string m[i].1.2.1)/\(cellsR m)[i*3+2]? = some m[i].2
 |x :: m,0,_=>⟨rfl,rfl,rfl⟩
 |x :: m,i+1,h=>by
  have:=cellsR_at m i (Nat.lt_of_succ_lt_succ h)
  rw[cellsR,show (i+1)*3=i*3+3 by omega,show i*3+3+1=(i*3+1)+3 by omega,show i*3+3+2=(i*3+2)+3 by omega]
  exact this
def KeepsS (W W':World):Prop:=∀ (g:Nat) (cur:Array Value),W.heap[g]? = some (.cells cur 9 (0,0))->W'.heap[g]? = some (.cells cur 9 (0,0))
theorem KeepsS.trans {W W' W'':World} (h:KeepsS W W') (k:KeepsS W' W''):KeepsS W W'':=fun g cur e=>k g cur (h g cur e)
theorem KeepsS.below {W W':World} (h:Below W.heap.size W W'):KeepsS W W':=fun g _ e=>(h.block g (lt_rowK e)).trans e
theorem KeepsS.set {W:World} {g:Nat} {cs:Array Value} {e:TypeId} (hg:W.heap[g]? = some (.cells cs e (0,0))) (he:e≠9) (i:Nat) (v:Value):KeepsS W (W.setCell ⟨g,i,none⟩ v):=fun k cur h=>by
 rw[heap_setCell_other W _ k v (by
  rintro rfl
  rw[hg]at h
  simp at h
  exact he h.2)]
 exact h
theorem KeepsS.grown {W W':World} {row:Option Nat} (h:W.grownBy W' row) (hr:∀ k,row=some k->∃ cs t,W.heap[k]? = some (.cells cs t (0,0))/\t≠9):KeepsS W W':=fun g cur e=>by
 rw[h.block g (lt_rowK e) (by
  intro hg
  obtain⟨cs,t,hk,ht⟩:=hr g hg.symm
  rw[hk]at e
  simp at e
  exact ht e.2)]
 exact e
def PathIn (W:World) (v:Value) (p:List ByteArray):Prop :=
 (v=.slice none 0 0/\p=[])∨∃ g cap,v=.slice (some ⟨g,0,none⟩) p.length cap/\p.length<=cap/\IsO W g 9 p
theorem PathIn.keeps {W W':World} {v:Value} {p:List ByteArray} (h:PathIn W v p) (k:KeepsS W W'):PathIn W' v p:=by
 rcases h with h|⟨g,cap,hv,hc,cur,hg,hj⟩
 ·exact .inl h
 ·exact .inr ⟨g,cap,hv,hc,cur,k g cur hg,hj⟩
theorem pathIn_own {W:World} {base:Nat} {v:Value} {p:List ByteArray} (h:OwnS W base v p):PathIn W v p:=by
 rcases h.split with h|⟨g,cap,hv,_,hc,ho⟩
 ·exact .inl h
 ·exact .inr ⟨g,cap,hv,hc,ho⟩
theorem PathIn.strs {W:World} {v:Value} {p:List ByteArray} (h:PathIn W v p):∃ a cap,v=.slice a p.length cap/\p.length<=cap/\Strs W W.heap.size a p:=by
 rcases h with⟨rfl,rfl⟩|⟨g,cap,rfl,hc,ho⟩
 ·exact⟨none,0,rfl,Nat.le_refl _,.inl rfl⟩
 ·exact⟨_,cap,rfl,hc,ho.strs ho.lt⟩
def OwnR (W:World) (base:Nat) (v:Value) (m:List MR):Prop:=W.ownsRow base 129 3 v m.length (cellsR m)
def Paths (W:World) (m:List MR):Prop:=∀ x∈m,PathIn W x.2 x.1.2.2
theorem Paths.keeps {W W':World} {m:List MR} (h:Paths W m) (k:KeepsS W W'):Paths W' m:=fun x hx=>(h x hx).keeps k
theorem OwnR.nil (w:World) (base:Nat):OwnR w base (.slice none 0 0) []:=World.ownsRow_nil w base _ _
theorem OwnR.alloc {W:World} {base:Nat} {v:Value} {m:List MR} (h:OwnR W base v m) (o:Obj):OwnR (W.alloc o) base v m:=World.ownsRow.alloc h o
theorem OwnR.below {w w':World} {base:Nat} {v:Value} {m:List MR} (h:OwnR w base v m) (b:Below w.heap.size w w'):OwnR w' base v m:=by
 obtain⟨hl,h⟩:=h
 refine⟨hl,?_⟩
 rcases h with h|⟨g,cap,cur,hv,hg,hb,rest⟩
 ·exact .inl h
 ·exact .inr ⟨g,cap,cur,hv,hg,by rw[b.block g (lt_rowK hb)];exact hb,rest⟩
theorem OwnR.mono {w:World} {base base':Nat} {v:Value} {m:List MR} (h:OwnR w base v m) (hb:base'<=base):OwnR w base' v m:=by
 obtain⟨hl,h⟩:=h
 refine⟨hl,?_⟩
 rcases h with h|⟨g,cap,cur,hv,hg,rest⟩
 ·exact .inl h
 ·exact .inr ⟨g,cap,cur,hv,Nat.le_trans hb hg,rest⟩
theorem OwnR.one {W:World} {base:Nat} {v:Value} {m:List MR} (h:OwnR W base v m):∃ a cap,v=.slice a m.length cap:=by
 obtain⟨_,h⟩:=h
 rcases h with⟨h,h0⟩|⟨g,cap,cur,hv,_⟩
 ·exact⟨none,0,by rw[h,h0]⟩
 ·exact⟨_,cap,hv⟩
theorem OwnR.cells {W:World} {base:Nat} {v:Value} {m:List MR} (h:OwnR W base v m) (h0:0<m.length):∃ g cap,v=.slice (some ⟨g,0,none⟩) m.length cap/\base<=g/\g<W.heap.size/\m.length<=cap /\
  ∀ i (hi:i<m.length),W.cell? ⟨g,i*3,none⟩=some (.int .i64 m[i].1.1)/\W.cell? ⟨g,i*3+1,none⟩=some (.string m[i].1.2.1)/\W.cell? ⟨g,i*3+2,none⟩=some m[i].2:=by
 obtain⟨_,h⟩:=h
 rcases h with⟨_,h⟩|⟨g,cap,cur,hv,hg,hb,hn,_,hs,ht⟩
 ·omega
 ·refine⟨g,cap,hv,hg,lt_rowK hb,hn,fun i hi=>?_⟩
  have hc:=cellsR_at m i hi
  rw[<-ht]at hc
  rw[List.getElem?_take_of_lt (by omega),List.getElem?_take_of_lt (by omega),List.getElem?_take_of_lt (by omega),Array.getElem?_toList,Array.getElem?_toList,Array.getElem?_toList]at hc
  exact⟨(cell_of_row W g _ _ _ _ hb).trans hc.1,(cell_of_row W g _ _ _ _ hb).trans hc.2.1,(cell_of_row W g _ _ _ _ hb).trans hc.2.2⟩
theorem OwnR.rowT {W:World} {base:Nat} {v:Value} {m:List MR} (h:OwnR W base v m):∀ k,v.ownBlock=some k->∃ cs,W.heap[k]? = some (.cells cs 129 (0,0)):=by
 intro k hk
 obtain⟨_,h⟩:=h
 rcases h with⟨h,_⟩|⟨g,cap,cur,hv,_,hb,_⟩
 ·subst h
  simp[Value.ownBlock]at hk
 ·subst hv
  simp[Value.ownBlock]at hk
  subst hk
  exact⟨cur,hb⟩
theorem OwnR.snoc {W:World} {base:Nat} {v:Value} {m:List MR} {x:MR} (h:W.ownsRow base 129 3 v (m.length+1) (cellsR m++[.int .i64 x.1.1,.string x.1.2.1,x.2])):OwnR W base v (m++[x]):=by
 unfold OwnR
 rw[List.length_append,cellsR_append]
 exact h
theorem three_new (W:World) (x y z:Value) (t:TypeId):∀ (j:Nat) (u:Value),[x,y,z][j]? = some u->(W.alloc (.cells #[x,y,z] t)).cell? ((⟨W.heap.size,0,none⟩:Addr).add j)=some u:=by
 intro j u hj
 match j,hj with
 |0,hj=>simp at hj;subst hj;simp[Addr.add]
 |1,hj=>simp at hj;subst hj;simp[Addr.add]
 |2,hj=>simp at hj;subst hj;simp[Addr.add]
theorem three_one {x y z:Value} (hx:x.oneCell'=true) (hy:y.oneCell'=true) (hz:z.oneCell'=true):∀ u∈[x,y,z],u.oneCell'=true:=by
 intro u hu
 simp at hu
 rcases hu with rfl|rfl|rfl
 ·exact hx
 ·exact hy
 ·exact hz
def recs (m:List MR):List Rec:=m.map (·.1)
theorem recs_length (m:List MR):(recs m).length=m.length:=List.length_map ..
theorem hasR_recs (m:List MR) (i:Int):hasR (recs m) i=m.any fun x=>x.1.1==i:=by
 unfold hasR recs
 rw[List.any_map]
 rfl
end Go.Proofs.YtpddanmnlkcdpaaGreatDoor.Kp


/- Blocks of nine cells. -/
namespace Go.Proofs.YtpddanmnlkcdpaaGreatDoor.Pe
open Go.RowKit
open Kp
theorem setC {W:World} {g:Nat} {cs cs':Array Value} {T:TypeId} (h:W.heap[g]? = some (.cells cs T (0,0))) (i:Nat) (a:Value) (hc:cs.setIfInBounds i a=cs'):(W.setCell ⟨g,i,none⟩ a).heap[g]? = some (.cells cs' T (0,0)):=by
 rw[heap_setCell_same W g i _ T a h,hc]
theorem cellsP6 {W:World} {g:Nat} {x0 x1 x2 x3 x4 x5:Value} {T:TypeId} (h:W.heap[g]? = some (.cells #[x0,x1,x2,x3,x4,x5] T (0,0))):W.cell? ⟨g,0,none⟩=some x0/\W.cell? ⟨g,1,none⟩=some x1/\W.cell? ⟨g,2,none⟩=some x2/\W.cell? ⟨g,3,none⟩=some x3/\W.cell? ⟨g,4,none⟩=some x4/\W.cell? ⟨g,5,none⟩=some x5 :=
 ⟨cell_of_row W g 0 _ _ _ h,cell_of_row W g 1 _ _ _ h,cell_of_row W g 2 _ _ _ h,cell_of_row W g 3 _ _ _ h,cell_of_row W g 4 _ _ _ h,cell_of_row W g 5 _ _ _ h⟩
theorem setP6 {W:World} {g:Nat} {x0 x1 x2 x3 x4 x5:Value} {T:TypeId} (h:W.heap[g]? = some (.cells #[x0,x1,x2,x3,x4,x5] T (0,0))) (a0 a1 a2 a3 a4 a5:Value) :
  ((((((W.setCell ⟨g,0,none⟩ a0).setCell ⟨g,1,none⟩ a1).setCell ⟨g,2,none⟩ a2).setCell ⟨g,3,none⟩ a3).setCell ⟨g,4,none⟩ a4).setCell ⟨g,5,none⟩ a5).heap[g]? = some (.cells #[a0,a1,a2,a3,a4,a5] T (0,0)):=by
 have h0:=setC (cs':=#[a0,x1,x2,x3,x4,x5]) h 0 a0 rfl
 have h1:=setC (cs':=#[a0,a1,x2,x3,x4,x5]) h0 1 a1 rfl
 have h2:=setC (cs':=#[a0,a1,a2,x3,x4,x5]) h1 2 a2 rfl
 have h3:=setC (cs':=#[a0,a1,a2,a3,x4,x5]) h2 3 a3 rfl
 have h4:=setC (cs':=#[a0,a1,a2,a3,a4,x5]) h3 4 a4 rfl
 have h5:=setC (cs':=#[a0,a1,a2,a3,a4,a5]) h4 5 a5 rfl
 exact h5
theorem setP6_low {w0 W:World} {g B:Nat} (h:Below B w0 W) (hg:B<=g) (a0 a1 a2 a3 a4 a5:Value):Below B w0 ((((((W.setCell ⟨g,0,none⟩ a0).setCell ⟨g,1,none⟩ a1).setCell ⟨g,2,none⟩ a2).setCell ⟨g,3,none⟩ a3).setCell ⟨g,4,none⟩ a4).setCell ⟨g,5,none⟩ a5) :=
 ((((((h.setCell (p:=⟨g,0,none⟩) hg a0).setCell (p:=⟨g,1,none⟩) hg a1).setCell (p:=⟨g,2,none⟩) hg a2).setCell (p:=⟨g,3,none⟩) hg a3).setCell (p:=⟨g,4,none⟩) hg a4).setCell (p:=⟨g,5,none⟩) hg a5)
theorem setP6_keep {W:World} {g k:Nat} {o:Obj} (h:W.heap[k]? = some o) (hk:k≠g) (a0 a1 a2 a3 a4 a5:Value):((((((W.setCell ⟨g,0,none⟩ a0).setCell ⟨g,1,none⟩ a1).setCell ⟨g,2,none⟩ a2).setCell ⟨g,3,none⟩ a3).setCell ⟨g,4,none⟩ a4).setCell ⟨g,5,none⟩ a5).heap[k]? = some o:=by
 rw[heap_setCell_other _ _ k _ (by exact hk),heap_setCell_other _ _ k _ (by exact hk),heap_setCell_other _ _ k _ (by exact hk),heap_setCell_other _ _ k _ (by exact hk),heap_setCell_other _ _ k _ (by exact hk),heap_setCell_other _ _ k _ (by exact hk)]
 exact h
theorem cellsP8 {W:World} {g:Nat} {x0 x1 x2 x3 x4 x5 x6 x7:Value} {T:TypeId} (h:W.heap[g]? = some (.cells #[x0,x1,x2,x3,x4,x5,x6,x7] T (0,0))):W.cell? ⟨g,0,none⟩=some x0/\W.cell? ⟨g,1,none⟩=some x1/\W.cell? ⟨g,2,none⟩=some x2/\W.cell? ⟨g,3,none⟩=some x3/\W.cell? ⟨g,4,none⟩=some x4/\W.cell? ⟨g,5,none⟩=some x5/\W.cell? ⟨g,6,none⟩=some x6/\W.cell? ⟨g,7,none⟩=some x7 :=
 ⟨cell_of_row W g 0 _ _ _ h,cell_of_row W g 1 _ _ _ h,cell_of_row W g 2 _ _ _ h,cell_of_row W g 3 _ _ _ h,cell_of_row W g 4 _ _ _ h,cell_of_row W g 5 _ _ _ h,cell_of_row W g 6 _ _ _ h,cell_of_row W g 7 _ _ _ h⟩
theorem setP8 {W:World} {g:Nat} {x0 x1 x2 x3 x4 x5 x6 x7:Value} {T:TypeId} (h:W.heap[g]? = some (.cells #[x0,x1,x2,x3,x4,x5,x6,x7] T (0,0))) (a0 a1 a2 a3 a4 a5 a6 a7:Value) :
  ((((((((W.setCell ⟨g,0,none⟩ a0).setCell ⟨g,1,none⟩ a1).setCell ⟨g,2,none⟩ a2).setCell ⟨g,3,none⟩ a3).setCell ⟨g,4,none⟩ a4).setCell ⟨g,5,none⟩ a5).setCell ⟨g,6,none⟩ a6).setCell ⟨g,7,none⟩ a7).heap[g]? = some (.cells #[a0,a1,a2,a3,a4,a5,a6,a7] T (0,0)):=by
 have h0:=setC (cs':=#[a0,x1,x2,x3,x4,x5,x6,x7]) h 0 a0 rfl
 have h1:=setC (cs':=#[a0,a1,x2,x3,x4,x5,x6,x7]) h0 1 a1 rfl
 have h2:=setC (cs':=#[a0,a1,a2,x3,x4,x5,x6,x7]) h1 2 a2 rfl
 have h3:=setC (cs':=#[a0,a1,a2,a3,x4,x5,x6,x7]) h2 3 a3 rfl
 have h4:=setC (cs':=#[a0,a1,a2,a3,a4,x5,x6,x7]) h3 4 a4 rfl
 have h5:=setC (cs':=#[a0,a1,a2,a3,a4,a5,x6,x7]) h4 5 a5 rfl
 have h6:=setC (cs':=#[a0,a1,a2,a3,a4,a5,a6,x7]) h5 6 a6 rfl
 have h7:=setC (cs':=#[a0,a1,a2,a3,a4,a5,a6,a7]) h6 7 a7 rfl
 exact h7
theorem setP8_low {w0 W:World} {g B:Nat} (h:Below B w0 W) (hg:B<=g) (a0 a1 a2 a3 a4 a5 a6 a7:Value):Below B w0 ((((((((W.setCell ⟨g,0,none⟩ a0).setCell ⟨g,1,none⟩ a1).setCell ⟨g,2,none⟩ a2).setCell ⟨g,3,none⟩ a3).setCell ⟨g,4,none⟩ a4).setCell ⟨g,5,none⟩ a5).setCell ⟨g,6,none⟩ a6).setCell ⟨g,7,none⟩ a7) :=
 ((((((((h.setCell (p:=⟨g,0,none⟩) hg a0).setCell (p:=⟨g,1,none⟩) hg a1).setCell (p:=⟨g,2,none⟩) hg a2).setCell (p:=⟨g,3,none⟩) hg a3).setCell (p:=⟨g,4,none⟩) hg a4).setCell (p:=⟨g,5,none⟩) hg a5).setCell (p:=⟨g,6,none⟩) hg a6).setCell (p:=⟨g,7,none⟩) hg a7)
theorem setP8_keep {W:World} {g k:Nat} {o:Obj} (h:W.heap[k]? = some o) (hk:k≠g) (a0 a1 a2 a3 a4 a5 a6 a7:Value):((((((((W.setCell ⟨g,0,none⟩ a0).setCell ⟨g,1,none⟩ a1).setCell ⟨g,2,none⟩ a2).setCell ⟨g,3,none⟩ a3).setCell ⟨g,4,none⟩ a4).setCell ⟨g,5,none⟩ a5).setCell ⟨g,6,none⟩ a6).setCell ⟨g,7,none⟩ a7).heap[k]? = some o:=by
 rw[heap_setCell_other _ _ k _ (by exact hk),heap_setCell_other _ _ k _ (by exact hk),heap_setCell_other _ _ k _ (by exact hk),heap_setCell_other _ _ k _ (by exact hk),heap_setCell_other _ _ k _ (by exact hk),heap_setCell_other _ _ k _ (by exact hk),heap_setCell_other _ _ k _ (by exact hk),heap_setCell_other _ _ k _ (by exact hk)]
 exact h
theorem cellsP9 {W:World} {g:Nat} {x0 x1 x2 x3 x4 x5 x6 x7 x8:Value} {T:TypeId} (h:W.heap[g]? = some (.cells #[x0,x1,x2,x3,x4,x5,x6,x7,x8] T (0,0))):W.cell? ⟨g,0,none⟩=some x0/\W.cell? ⟨g,1,none⟩=some x1/\W.cell? ⟨g,2,none⟩=some x2/\W.cell? ⟨g,3,none⟩=some x3/\W.cell? ⟨g,4,none⟩=some x4/\W.cell? ⟨g,5,none⟩=some x5/\W.cell? ⟨g,6,none⟩=some x6/\W.cell? ⟨g,7,none⟩=some x7/\W.cell? ⟨g,8,none⟩=some x8 :=
 ⟨cell_of_row W g 0 _ _ _ h,cell_of_row W g 1 _ _ _ h,cell_of_row W g 2 _ _ _ h,cell_of_row W g 3 _ _ _ h,cell_of_row W g 4 _ _ _ h,cell_of_row W g 5 _ _ _ h,cell_of_row W g 6 _ _ _ h,cell_of_row W g 7 _ _ _ h,cell_of_row W g 8 _ _ _ h⟩
theorem setP9 {W:World} {g:Nat} {x0 x1 x2 x3 x4 x5 x6 x7 x8:Value} {T:TypeId} (h:W.heap[g]? = some (.cells #[x0,x1,x2,x3,x4,x5,x6,x7,x8] T (0,0))) (a0 a1 a2 a3 a4 a5 a6 a7 a8:Value) :
  (((((((((W.setCell ⟨g,0,none⟩ a0).setCell ⟨g,1,none⟩ a1).setCell ⟨g,2,none⟩ a2).setCell ⟨g,3,none⟩ a3).setCell ⟨g,4,none⟩ a4).setCell ⟨g,5,none⟩ a5).setCell ⟨g,6,none⟩ a6).setCell ⟨g,7,none⟩ a7).setCell ⟨g,8,none⟩ a8).heap[g]? = some (.cells #[a0,a1,a2,a3,a4,a5,a6,a7,a8] T (0,0)):=by
 have h0:=setC (cs':=#[a0,x1,x2,x3,x4,x5,x6,x7,x8]) h 0 a0 rfl
 have h1:=setC (cs':=#[a0,a1,x2,x3,x4,x5,x6,x7,x8]) h0 1 a1 rfl
 have h2:=setC (cs':=#[a0,a1,a2,x3,x4,x5,x6,x7,x8]) h1 2 a2 rfl
 have h3:=setC (cs':=#[a0,a1,a2,a3,x4,x5,x6,x7,x8]) h2 3 a3 rfl
 have h4:=setC (cs':=#[a0,a1,a2,a3,a4,x5,x6,x7,x8]) h3 4 a4 rfl
 have h5:=setC (cs':=#[a0,a1,a2,a3,a4,a5,x6,x7,x8]) h4 5 a5 rfl
 have h6:=setC (cs':=#[a0,a1,a2,a3,a4,a5,a6,x7,x8]) h5 6 a6 rfl
 have h7:=setC (cs':=#[a0,a1,a2,a3,a4,a5,a6,a7,x8]) h6 7 a7 rfl
 have h8:=setC (cs':=#[a0,a1,a2,a3,a4,a5,a6,a7,a8]) h7 8 a8 rfl
 exact h8
theorem setP9_low {w0 W:World} {g B:Nat} (h:Below B w0 W) (hg:B<=g) (a0 a1 a2 a3 a4 a5 a6 a7 a8:Value):Below B w0 (((((((((W.setCell ⟨g,0,none⟩ a0).setCell ⟨g,1,none⟩ a1).setCell ⟨g,2,none⟩ a2).setCell ⟨g,3,none⟩ a3).setCell ⟨g,4,none⟩ a4).setCell ⟨g,5,none⟩ a5).setCell ⟨g,6,none⟩ a6).setCell ⟨g,7,none⟩ a7).setCell ⟨g,8,none⟩ a8) :=
 (((((((((h.setCell (p:=⟨g,0,none⟩) hg a0).setCell (p:=⟨g,1,none⟩) hg a1).setCell (p:=⟨g,2,none⟩) hg a2).setCell (p:=⟨g,3,none⟩) hg a3).setCell (p:=⟨g,4,none⟩) hg a4).setCell (p:=⟨g,5,none⟩) hg a5).setCell (p:=⟨g,6,none⟩) hg a6).setCell (p:=⟨g,7,none⟩) hg a7).setCell (p:=⟨g,8,none⟩) hg a8)
theorem setP9_keep {W:World} {g k:Nat} {o:Obj} (h:W.heap[k]? = some o) (hk:k≠g) (a0 a1 a2 a3 a4 a5 a6 a7 a8:Value):(((((((((W.setCell ⟨g,0,none⟩ a0).setCell ⟨g,1,none⟩ a1).setCell ⟨g,2,none⟩ a2).setCell ⟨g,3,none⟩ a3).setCell ⟨g,4,none⟩ a4).setCell ⟨g,5,none⟩ a5).setCell ⟨g,6,none⟩ a6).setCell ⟨g,7,none⟩ a7).setCell ⟨g,8,none⟩ a8).heap[k]? = some o:=by
 rw[heap_setCell_other _ _ k _ (by exact hk),heap_setCell_other _ _ k _ (by exact hk),heap_setCell_other _ _ k _ (by exact hk),heap_setCell_other _ _ k _ (by exact hk),heap_setCell_other _ _ k _ (by exact hk),heap_setCell_other _ _ k _ (by exact hk),heap_setCell_other _ _ k _ (by exact hk),heap_setCell_other _ _ k _ (by exact hk),heap_setCell_other _ _ k _ (by exact hk)]
 exact h
end Go.Proofs.YtpddanmnlkcdpaaGreatDoor.Pe


namespace Go.Proofs.YtpddanmnlkcdpaaGreatDoor.Kp
open Go.RowKit
open Ls (cells3 set3_all blk_alloc)
open Sh (step_append_own)
theorem Tryz.infoRecord:(Tryz.prog.info? 129).map (fun i=>(i.zero,i.size,i.bytes))=some (some (.agg #[.int .i64 0,.string ⟨#[]⟩,.slice none 0 0]),3,48):=by kernel_rfl
def wkB (v:Value) (e:Int) (z b:Int) (r s:ByteArray) (y:Int):Obj:=.cells #[v,.int .i64 e,.int .i64 z,.int .i64 b,.string r,.string s,.int .i64 y] 76
theorem wk_set0 {W:World} {g:Nat} {v:Value} {e z b:Int} {r s:ByteArray} {y:Int} (h:W.heap[g]? = some (wkB v e z b r s y)) (u:Value):(W.setCell ⟨g,0,none⟩ u).heap[g]? = some (wkB u e z b r s y):=by
 unfold wkB at h ⊢
 rw[heap_setCell_same W g 0 _ _ u h]
 rfl
theorem wk_set1 {W:World} {g:Nat} {v:Value} {e z b:Int} {r s:ByteArray} {y:Int} (h:W.heap[g]? = some (wkB v e z b r s y)) (f:Int):(W.setCell ⟨g,1,none⟩ (.int .i64 f)).heap[g]? = some (wkB v f z b r s y):=by
 unfold wkB at h ⊢
 rw[heap_setCell_same W g 1 _ _ _ h]
 rfl
theorem wk_cells {W:World} {g:Nat} {v:Value} {e z b:Int} {r s:ByteArray} {y:Int} (h:W.heap[g]? = some (wkB v e z b r s y)):W.cell? ⟨g,0,none⟩=some v/\W.cell? ⟨g,1,none⟩=some (.int .i64 e)/\W.cell? ⟨g,2,none⟩=some (.int .i64 z)/\W.cell? ⟨g,3,none⟩=some (.int .i64 b)/\W.cell? ⟨g,4,none⟩=some (.string r)/\W.cell? ⟨g,5,none⟩=some (.string s)/\W.cell? ⟨g,6,none⟩=some (.int .i64 y) :=
 ⟨cell_of_row W g 0 _ _ _ h,cell_of_row W g 1 _ _ _ h,cell_of_row W g 2 _ _ _ h,cell_of_row W g 3 _ _ _ h,cell_of_row W g 4 _ _ _ h,cell_of_row W g 5 _ _ _ h,cell_of_row W g 6 _ _ _ h⟩
theorem OwnR.set {W:World} {base g:Nat} {v:Value} {m:List MR} {cs:Array Value} {T:TypeId} (h:OwnR W base v m) (hg:W.heap[g]? = some (.cells cs T (0,0))) (hT:T≠129) (i:Nat) (u:Value):OwnR (W.setCell ⟨g,i,none⟩ u) base v m:=by
 obtain⟨hl,h⟩:=h
 refine⟨hl,?_⟩
 rcases h with h|⟨k,cap,cur,hv,hk,hb,rest⟩
 ·exact .inl h
 ·refine .inr ⟨k,cap,cur,hv,hk,?_,rest⟩
  rw[heap_setCell_other W _ k u (by
   rintro rfl
   rw[hg]at hb
   simp at hb
   exact hT hb.2)]
  exact hb
theorem own_one {W:World} {base size n:Nat} {e:TypeId} {v:Value} {xs:List Value} (h:W.ownsRow base e size v n xs):∃ a cap,v=.slice a n cap:=by
 obtain⟨_,h⟩:=h
 rcases h with⟨h,h0⟩|⟨g,cap,cur,hv,_⟩
 ·exact⟨none,0,by rw[h,h0]⟩
 ·exact⟨_,cap,hv⟩
theorem own_drewA {W:World} {base:Nat} {v:Value} {m:List MR} (h:OwnR W base v m) (o:Obj):OwnR (W.drew.alloc o) base v m:=(h.below (show Below W.heap.size W W.drew from (Below.refl _ _).drew)).alloc o
theorem grown_blk {W W':World} {row:Option Nat} {g:Nat} {o:Obj} (h:W.grownBy W' row) (hg:W.heap[g]? = some o) (hr:row≠some g):W'.heap[g]? = some o:=(h.block g (lt_rowK hg) (fun e=>hr e.symm)).trans hg
theorem own_not {W:World} {base g:Nat} {v:Value} {m:List MR} {cs:Array Value} {T:TypeId} (h:OwnR W base v m) (hg:W.heap[g]? = some (.cells cs T (0,0))) (hT:T≠129):v.ownBlock≠some g:=fun e=>by
 obtain⟨cs',hk⟩:=h.rowT g e
 rw[hg]at hk
 simp at hk
 exact hT hk.2
theorem put_end {w w1 w8:World} {o:Obj} {g base:Nat} {x:MR} {e e0 z b:Int} {r s:ByteArray} {y:Int} {v v8:Value} {m:List MR} (hg:w.heap[g]? = some (wkB v e0 z b r s y)) (ho:OwnR w base v m) (hw1:∃ q,w1=w.alloc q) (hbase:base<=w.heap.size)
  (hg8:(w1.drew.alloc o).grownBy w8 v.ownBlock) (ho8:w8.ownsRow base 129 3 v8 (m.length+1) (cellsR m++[.int .i64 x.1.1,.string x.1.2.1,x.2])) :
  w8.heap[g]? = some (wkB v e0 z b r s y)/\∃ v',((w8.setCell ⟨g,0,none⟩ v8).setCell ⟨g,1,none⟩ (.int .i64 e)).heap[g]? = some (wkB v' e z b r s y)/\OwnR ((w8.setCell ⟨g,0,none⟩ v8).setCell ⟨g,1,none⟩ (.int .i64 e)) base v' (m++[x])/\KeepsS w ((w8.setCell ⟨g,0,none⟩ v8).setCell ⟨g,1,none⟩ (.int .i64 e)) /\
    (∀ k o,w.heap[k]? = some o->k≠g->v.ownBlock≠some k->((w8.setCell ⟨g,0,none⟩ v8).setCell ⟨g,1,none⟩ (.int .i64 e)).heap[k]? = some o)/\(∀ B,B<=base->B<=g->Below B w ((w8.setCell ⟨g,0,none⟩ v8).setCell ⟨g,1,none⟩ (.int .i64 e))):=by
 obtain⟨q,rfl⟩:=hw1
 have hT1:(76:Nat)≠129:=by decide
 have hT2:(76:Nat)≠9:=by decide
 have hT3:(129:Nat)≠9:=by decide
 have hne:v.ownBlock≠some g:=own_not ho hg hT1
 have up:∀ k u,w.heap[k]? = some u->((w.alloc q).drew.alloc o).heap[k]? = some u:=fun k u h=>blk_alloc (W:=(w.alloc q).drew) (blk_alloc h q) o
 have h8:w8.heap[g]? = some (wkB v e0 z b r s y):=grown_blk hg8 (up g _ hg) hne
 have o8:OwnR w8 base v8 (m++[x]):=OwnR.snoc ho8
 have h80:=wk_set0 h8 v8
 have hbl:Below w.heap.size w ((w.alloc q).drew.alloc o):=(((Below.refl _ w).alloc (Nat.le_refl _) q).drew).alloc (by simp) o
 refine⟨h8,v8,wk_set1 h80 e,(o8.set h8 hT1 0 v8).set h80 hT1 1 _,?_,?_,?_⟩
 ·refine((KeepsS.below hbl).trans (KeepsS.grown hg8 ?_)).trans ((KeepsS.set h8 hT2 0 v8).trans (KeepsS.set h80 hT2 1 _))
  intro k hk
  obtain⟨cs,hc⟩:=ho.rowT k hk
  exact⟨cs,_,up k _ hc,hT3⟩
 ·intro k u hk hkg hkv
  rw[heap_setCell_other _ _ k _ (by exact hkg),heap_setCell_other _ _ k _ (by exact hkg)]
  exact grown_blk hg8 (up k _ hk) hkv
 ·intro B hB hBg
  have hBs:B<=w.heap.size:=by have:=lt_rowK hg;omega
  refine((((((Below.refl B w).alloc hBs q).drew).alloc (by simp;omega) o).grown hg8 (by simp;omega) ?_).setCell (p:=⟨g,0,none⟩) hBg v8).setCell (p:=⟨g,1,none⟩) hBg _
  intro k hk
  exact Nat.le_trans hB (World.ownsRow.lt ho k hk).1
theorem put_any (g base n:Nat) (x:MR) (e e0 z b:Int) (r s:ByteArray) (y:Int) (v:Value) (m:List MR) (w:World) (hg:w.heap[g]? = some (wkB v e0 z b r s y)) (ho:OwnR w base v m) (hbase:base<=w.heap.size) (hn:m.length=n) (hm:n<=1048576) (hx:∃ a n cap,x.2=.slice a n cap) :
  Calls Tryz.prog 108 #[.pointer (some ⟨g,0,none⟩),.agg #[.int .i64 x.1.1,.string x.1.2.1,x.2],.int .i64 e] w fun q w' =>
   q=.returned (.tuple #[])/\∃ v',w'.heap[g]? = some (wkB v' e z b r s y)/\OwnR w' base v' (m++[x])/\KeepsS w w' /\
    (∀ k o,w.heap[k]? = some o->k≠g->v.ownBlock≠some k->w'.heap[k]? = some o)/\(∀ B,B<=base->B<=g->Below B w w'):=by
 obtain⟨i0,hi,hz0,hz1,hz2⟩:=info_parts Tryz.infoRecord
 have HEND:=hideK (fun w1 w8 o v8=>put_end (w:=w) (w1:=w1) (w8:=w8) (o:=o) (x:=x) (e:=e) (v8:=v8) hg ho)
 obtain⟨⟨xi,xt,xp⟩,xv⟩:=x
 obtain⟨ap,np,cp,hxv⟩:=hx
 dsimp only at hxv HEND ⊢
 subst hxv
 subst hn
 obtain⟨w1,hw1⟩:∃ w1,w1=w.alloc (.cells #[.int .i64 xi,.string xt,.slice ap np cp] 129):=⟨_,rfl⟩
 have HX1:Hid (w1.heap[w.heap.size]? = some (.cells #[.int .i64 xi,.string xt,.slice ap np cp] 129 (0,0))):=by rw[hw1];exact heap_alloc_new w _
 have B1:Hid (Below w.heap.size w w1):=by rw[hw1];exact(Below.refl _ _).alloc (Nat.le_refl _) _
 have G1:Hid (w1.heap[g]? = some (wkB v e0 z b r s y)):=by rw[hw1];exact blk_alloc hg _
 have O1:Hid (OwnR w1 base v m):=by rw[hw1];exact ho.alloc _
 have HW1:Hid (∃ q,w1=w.alloc q):=⟨_,hw1⟩
 have OD:=hideK (own_drewA O1.out (.cells #[.int .i64 xi,.string xt,.slice ap np cp] 129))
 have hz1':base<=w1.heap.size:=Nat.le_trans hbase B1.out.size
 clear hg ho
 obtain⟨a,cap,hv⟩:=O1.out.one
 obtain⟨x0,x1,x2⟩:=cells3 HX1.out
 obtain⟨k0,k1,_⟩:=wk_cells G1.out
 have hfz:=fun o=>frozen_of_row w1 g o _ _ G1.out
 go_enter Tryz.func108,Tryz.ntmps108
 go_upto_region 1 with fail
 rw[<-hw1]
 clear hw1
 generalize hml:m.length=n at hv OD HEND hm ⊢
 subst hv
 have ODD:Hid (((w1.alloc (.cells #[.int .i64 xi,.string xt,.slice ap np cp] 129)).drew).ownsRow base 129 3 (.slice a n cap) n (cellsR m)):=by
  have:=OD.out
  unfold OwnR at this
  rw[hml]at this
  exact this
 have cA:(w1.alloc (.cells #[.int .i64 xi,.string xt,.slice ap np cp] 129)).cell? ⟨g,0,none⟩=some (.slice a n cap):=(wk_cells (blk_alloc G1.out _)).1
 go_region_law (refine step_append_own rfl (.tmp 10) (.tmp 12) 72 rfl base 129 i0 _ 3 48 Tryz.underlying72 hi hz0 hz1 hz2 rfl (by decide) (.slice a n cap) n _ rfl ODD.out ⟨w1.heap.size,0,none⟩ 1 1 [.int .i64 xi,.string xt,.slice ap np cp] rfl rfl (three_new w1.drew _ _ _ _) (three_one rfl rfl rfl) (by unfold maxLen;omega) (by omega) (by simp;omega) ?_;intro v8 w8 ho8 hg8;obtain⟨a8,c8,hv8⟩:=own_one ho8;subst hv8;obtain⟨G8,HE8⟩:=HEND.out w1 w8 _ _ HW1.out hbase hg8 ho8;have E8:=hideK HE8;clear ho8 hg8 HE8;obtain⟨d0,d1,_⟩:=wk_cells G8;have hf8:=fun o=>frozen_of_row w8 g o _ _ G8)
 all_goals (try go_wp2_with fail)
 all_goals (
  refine bodyPost_end (v:=.tuple #[]) (by simp[results,Tryz.results108,go_sem]) rfl ⟨rfl,?_⟩
  exact E8.out)
end Go.Proofs.YtpddanmnlkcdpaaGreatDoor.Kp


namespace Go.Proofs.YtpddanmnlkcdpaaGreatDoor.Pe
open Go.RowKit
open Kp
open Ls (lowL)
def szV (L:Int) (k:Nat):Int:=if L-k<0 then -1 else L-k
theorem szV_yes {L:Int} {k:Nat} (h:(k:Int)<=L):szV L k=L-k:=by unfold szV;rw[if_neg (by omega)]
theorem szV_no {L:Int} {k:Nat} (h:¬(k:Int)<=L):szV L k = -1:=by unfold szV;rw[if_pos (by omega)]
def cost (o:Oth):Nat:=o.name.size+o.has.length
def tot (l:List Oth):Nat:=(l.map cost).sum
theorem tot_take {m:List MO} {j:Nat} (h:j<m.length):tot (oths (m.take (j+1)))=tot (oths (m.take j))+cost m[j].1:=by
 unfold tot oths
 rw[List.take_succ_eq_append_getElem h,List.map_append,List.map_append,List.sum_append]
 simp
theorem tot_le {m:List MO} (j:Nat):tot (oths (m.take j))<=tot (oths m):=by
 have h:oths m=oths (m.take j)++oths (m.drop j):=by
  unfold oths
  rw[<-List.map_append,List.take_append_drop]
 rw[h]
 unfold tot
 rw[List.map_append,List.sum_append]
 omega
theorem cost_le {m:List MO} {x:MO} (hx:x∈m):cost x.1<=tot (oths m):=by
 obtain⟨j,hj,rfl⟩:=List.getElem_of_mem hx
 have h1:=tot_take hj
 have h2:=tot_le (m:=m) (j+1)
 omega
def Lens (m:List MO):Prop:=∀ x∈m,x.1.has.length<=maxLen/\x.1.name.size<=maxLen
theorem szI_any (a:Option Addr) (n cap:Nat) (L:Int) (w:World) (hL0:0<=L) (hL1:L<=1048576) (hn:n<=maxLen) :
  Calls Tryz.prog 100 #[.slice a n cap,.int .i64 L] w fun e w'=>e=.returned (.int .i64 (szV L n))/\w'=w:=by
 unfold maxLen at hn
 have hw:IntKind.i64.wrap (L-(n:Int))=L-(n:Int):=by rw[IntKind.wrap_i64];omega
 by_cases h:(n:Int)<=L
 ·have HE:=hideK (szV_yes h)
  have h1:¬(L-(n:Int))<0:=by omega
  go_enter Tryz.func100,Tryz.ntmps100
  go_wp2_with fail
  go_ret
  exact⟨by rw[HE.out];rfl,rfl⟩
 ·have HE:=hideK (szV_no h)
  have h1:(L-(n:Int))<0:=by omega
  go_enter Tryz.func100,Tryz.ntmps100
  go_wp2_with fail
  go_ret
  exact⟨by rw[HE.out];rfl,rfl⟩
theorem szO_any (nm:ByteArray) (a:Option Addr) (n cap:Nat) (q g t L:Int) (w:World) (hL0:0<=L) (hL1:L<=1048576) (hn:n<=maxLen) (hnm:nm.size<=maxLen) :
  Calls Tryz.prog 57 #[.agg #[.string nm,.slice a n cap,.int .i64 q,.int .i64 g,.int .i64 t],.int .i64 L] w fun e w'=>e=.returned (.int .i64 (szV L (nm.size+n)))/\Below w.heap.size w w':=by
 have C0:=hideK ((Cx.nil w).new (.cells #[.string nm,.slice a n cap,.int .i64 q,.int .i64 g,.int .i64 t] 106))
 have hw:IntKind.i64.wrap (L-(nm.size:Int))=L-(nm.size:Int):=by unfold maxLen at hnm;rw[IntKind.wrap_i64];omega
 by_cases h:(nm.size:Int)<=L
 ·have h1:¬(L-(nm.size:Int))<0:=by omega
  have HI:=hideK (fun W=>szI_any a n cap (L-(nm.size:Int)) W (by omega) (by omega) hn)
  have HV:Hid (szV (L-(nm.size:Int)) n=szV L (nm.size+n)):=by
   unfold Hid szV
   rw[show L-(nm.size:Int)-(n:Int)=L-((nm.size+n:Nat):Int) by omega]
  rw[HV.out]at HI
  clear HV
  generalize hx:szV L (nm.size+n)=X at HI ⊢
  have HX:Hid (X<0->X = -1):=fun h=>by rw[<-hx]at h ⊢;unfold szV at h ⊢;split at h<;>simp_all
  clear hx
  go_enter Tryz.func57,Tryz.ntmps57
  go_wp2_with fail
  refine(HI.out _).mono ?_
  rintro e w1 ⟨rfl,hw1⟩
  subst hw1
  by_cases h2:X<0
  ·have HE:=hideK (HX.out h2)
   go_wp2_with fail
   go_ret
   exact⟨by rw[HE.out];rfl,C0.out.low⟩
  ·go_wp2_with fail
   go_ret
   exact⟨rfl,C0.out.low⟩
 ·have h1:(L-(nm.size:Int))<0:=by omega
  have HE:=hideK (szV_no (L:=L) (k:=nm.size+n) (by omega))
  go_enter Tryz.func57,Tryz.ntmps57
  go_wp2_with fail
  go_ret
  exact⟨by rw[HE.out];rfl,C0.out.low⟩
theorem szOs_any (a:Option Addr) (n cap:Nat) (m:List MO) (L:Int) (w:World) (h:Oths w w.heap.size a m) (hm:m.length=n) (hL0:0<=L) (hL1:L<=1048576) (hn:n<=maxLen) (hl:Lens m) :
  Calls Tryz.prog 24 #[.slice a n cap,.int .i64 L] w fun e w'=>e=.returned (.int .i64 (szV L (n+tot (oths m))))/\Below w.heap.size w w':=by
 have hw:IntKind.i64.wrap (L-(n:Int))=L-(n:Int):=by unfold maxLen at hn;rw[IntKind.wrap_i64];omega
 have HS:=hideK h
 have HM:=hideK hm
 have HL:=hideK hl
 clear h hm hl
 by_cases h0:(n:Int)<=L
 ·have h1:¬(L-(n:Int))<0:=by omega
  have HEND:Hid (((n+tot (oths m):Nat):Int)<=L->szV L (n+tot (oths m))=L-(n+tot (oths m):Nat)):=fun h=>szV_yes h
  have HBAD:Hid (¬((n+tot (oths m):Nat):Int)<=L->szV L (n+tot (oths m)) = -1):=fun h=>szV_no h
  have HTL:=hideK (fun j=>tot_le (m:=m) j)
  have HTT:Hid (oths (m.take n)=oths m):=by unfold Hid;rw[List.take_of_length_le (by rw[HM.out];exact Nat.le_refl _)]
  generalize szV L (n+tot (oths m))=X at HEND HBAD ⊢
  go_enter Tryz.func24,Tryz.ntmps24
  go_wp2_with fail
  go_loopw [1,5] (fun lv jv wr=>∃ j T:Nat,jv=.int .i64 j/\lv=.int .i64 (L-(n:Int)-(T:Int))/\j<=n/\T=tot (oths (m.take j))/\(n:Int)+T<=L/\Below w.heap.size w wr) (fun _ jv _=>n-(intOf jv).toNat)
  case atStart=>exact⟨0,0,rfl,by go_num,Nat.zero_le _,rfl,by omega,Below.refl _ _⟩
  case round =>
   obtain⟨j,T,rfl,rfl,hj,hT,hle,hbel⟩:=hrel
   have HTE:=hideK hT
   have GB:=hideK hbel
   clear hT hbel
   by_cases hlt:j<n
   ·have hlt':(j:Int)<(n:Int):=by omega
    have hjl:j<m.length:=by rw[HM.out];exact hlt
    obtain⟨b,off,rfl,hb,hc⟩:=HS.out.some (by omega)
    obtain⟨d0,d1,d2,d3,d4⟩:=(hc j hjl).below GB.out hb
    obtain⟨ax,cx,hxv,_,_,_⟩:=HS.out.2 m[j] (List.getElem_mem hjl)
    obtain⟨hk1,hk2⟩:=HL.out m[j] (List.getElem_mem hjl)
    have HT2:=hideK (tot_take hjl)
    have HC:Hid (cost m[j].1=m[j].1.name.size+m[j].1.has.length):=rfl
    rw[hxv]at d1
    generalize cost m[j].1=K at HT2 HC
    generalize m[j].1.name=nm at d0 HC hk2
    generalize m[j].1.has.length=k at d1 HC hk1
    generalize m[j].1.asked=q at d2
    generalize m[j].1.age=g at d3
    generalize m[j].1.strikes=t at d4
    clear hc hxv
    have HO:=hideK (fun W=>szO_any nm ax k cx q g t (L-(n:Int)-(T:Int)) W (by omega) (by omega) hk1 hk2)
    rw[<-HC.out]at HO
    have HV:Hid (szV (L-(n:Int)-(T:Int)) K=szV L (n+(T+K))):=by
     unfold Hid szV
     rw[show L-(n:Int)-(T:Int)-(K:Int)=L-((n+(T+K):Nat):Int) by omega]
    rw[HV.out]at HO
    by_cases h2:((n+(T+K):Nat):Int)<=L
    ·rw[szV_yes h2,show L-((n+(T+K):Nat):Int)=L-(n:Int)-((T+K:Nat):Int) by omega]at HO
     have h3:¬(L-(n:Int)-((T+K:Nat):Int))<0:=by omega
     have HTK:Hid (T+K=tot (oths (m.take (j+1)))):=by unfold Hid;rw[HT2.out,<-HTE.out]
     have h4:(n:Int)+((T+K:Nat):Int)<=L:=by omega
     generalize T+K=T2 at HO h3 HTK h4
     clear h2 HV HT2 HC
     go_wp2_with fail
     refine(HO.out _).mono ?_
     rintro e w1 ⟨rfl,hb1⟩
     have G1:=hideK (lowL GB.out hb1)
     clear hb1
     go_wp2_with fail
     go_roundw
     case rel=>exact⟨j+1,T2,by go_num,rfl,by omega,HTK.out,h4,G1.out⟩
     case measure=>simp[intOf];omega
    ·rw[szV_no h2]at HO
     have h5:=HTL.out (j+1)
     rw[HT2.out,<-HTE.out]at h5
     have HE:=hideK (HBAD.out (by omega))
     clear h5
     clear HV HT2 HC
     go_wp2_with fail
     refine(HO.out _).mono ?_
     rintro e w1 ⟨rfl,hb1⟩
     have G1:=hideK (lowL GB.out hb1)
     clear hb1
     go_wp2_with fail
     go_ret
     exact⟨by rw[HE.out];rfl,G1.out⟩
   ·obtain rfl:j=n:=by omega
    have HTN:Hid (T=tot (oths m)):=by unfold Hid;rw[HTE.out,HTT.out]
    have HE:=hideK (HEND.out (by rw[<-HTN.out];omega))
    have HF:Hid (L-(j:Int)-(T:Int)=X):=by unfold Hid;rw[HE.out,<-HTN.out];omega
    go_wp2_with fail
    go_ret
    exact⟨by rw[<-HF.out];rfl,GB.out⟩
 ·have h1:(L-(n:Int))<0:=by omega
  have HE:=hideK (szV_no (L:=L) (k:=n+tot (oths m)) (by omega))
  go_enter Tryz.func24,Tryz.ntmps24
  go_wp2_with fail
  go_ret
  exact⟨by rw[HE.out];rfl,Below.refl _ _⟩
def lpO (z b:Int) (r s:ByteArray) (y:Int) (v:Value):Obj:=.cells #[.int .i64 z,.int .i64 b,.string r,.string s,.int .i64 y,v] 28
def lpV (z b:Int) (r s:ByteArray) (y:Int) (v:Value):Value:=.agg #[.int .i64 z,.int .i64 b,.string r,.string s,.int .i64 y,v]
theorem szP_any (z b:Int) (r s:ByteArray) (y:Int) (a:Option Addr) (n cap:Nat) (m:List MO) (w:World) (h:Oths w w.heap.size a m) (hm:m.length=n) (hr:r.size<=maxLen) (hs:s.size<=maxLen) (hn:n<=maxLen) (hl:Lens m) :
  Calls Tryz.prog 6 #[lpV z b r s y (.slice a n cap),.int .i64 1048576] w fun e w'=>e=.returned (.int .i64 (szV 1048576 (r.size+s.size+(n+tot (oths m)))))/\Below w.heap.size w w':=by
 have C0:=hideK ((Cx.nil w).new (lpO z b r s y (.slice a n cap)))
 unfold lpV
 unfold lpO at C0
 by_cases h0:r.size+s.size<=1048576
 ·have HK:=hideK (fun W=>szK_yes z b r s y W h0)
  have h1:¬(1048576-(r.size:Int)-(s.size:Int))<0:=by omega
  have h2:decide ((1048576-(r.size:Int)-(s.size:Int))<0)=false:=by simp;omega
  have HO:=hideK (fun W (hW:Below w.heap.size w W)=>szOs_any a n cap m (1048576-(r.size:Int)-(s.size:Int)) W ((h.below hW).mono hW.size) hm (by omega) (by omega) hn hl)
  have HV:Hid (szV (1048576-(r.size:Int)-(s.size:Int)) (n+tot (oths m))=szV 1048576 (r.size+s.size+(n+tot (oths m)))):=by
   unfold Hid szV
   rw[show 1048576-(r.size:Int)-(s.size:Int)-((n+tot (oths m):Nat):Int)=1048576-((r.size+s.size+(n+tot (oths m)):Nat):Int) by omega]
  rw[HV.out]at HO
  clear HV h
  generalize hx:szV 1048576 (r.size+s.size+(n+tot (oths m)))=X at HO ⊢
  have HX:Hid (X<0->X = -1):=fun h=>by rw[<-hx]at h ⊢;unfold szV at h ⊢;split at h<;>simp_all
  clear hx
  unfold kV at HK
  go_enter Tryz.func6,Tryz.ntmps6
  go_wp2_with fail
  generalize w.alloc _=W0 at C0 ⊢
  refine(HK.out _).mono ?_
  rintro e w1 ⟨rfl,hb⟩
  have C1:=hideK (C0.out.call hb)
  clear hb C0
  have k5:=cell_of_row w1 w.heap.size 5 _ _ _ (C1.out.get 0 rfl)
  simp at k5
  go_wp2_with fail
  refine(HO.out _ C1.out.low).mono ?_
  rintro e w2 ⟨rfl,hb⟩
  have C2:=hideK (C1.out.call hb)
  clear hb C1
  by_cases h3:X<0
  ·have HE:=hideK (HX.out h3)
   go_wp2_with fail
   go_ret
   exact⟨by rw[HE.out];rfl,C2.out.low⟩
  ·go_wp2_with fail
   go_ret
   exact⟨rfl,C2.out.low⟩
 ·have HK:=hideK (fun W=>szK_no z b r s y W (by unfold maxLen at hr;omega) (by unfold maxLen at hs;omega) h0)
  have HE:=hideK (szV_no (L:=1048576) (k:=r.size+s.size+(n+tot (oths m))) (by omega))
  unfold kV at HK
  go_enter Tryz.func6,Tryz.ntmps6
  go_wp2_with fail
  generalize w.alloc _=W0 at C0 ⊢
  refine(HK.out _).mono ?_
  rintro e w1 ⟨rfl,hb⟩
  have C1:=hideK (C0.out.call hb)
  clear hb C0
  go_wp2_with fail
  go_ret
  exact⟨by rw[HE.out];rfl,C1.out.low⟩
end Go.Proofs.YtpddanmnlkcdpaaGreatDoor.Pe


namespace Go.Proofs.YtpddanmnlkcdpaaGreatDoor.Kp
open Go.RowKit
open Gn (rd rt handle_below)
open St (OwnS Strs)
open Ls (HH hh_keep num_all text_all cells3 set3_all set_j3)
theorem KeepsS.set3 {W:World} {g:Nat} {x y z:Value} {T:TypeId} (hg:W.heap[g]? = some (.cells #[x,y,z] T (0,0))) (hT:T≠9) (a b c:Value):KeepsS W (((W.setCell ⟨g,0,none⟩ a).setCell ⟨g,1,none⟩ b).setCell ⟨g,2,none⟩ c) :=
 ((KeepsS.set hg hT 0 a).trans (KeepsS.set (set_j3 hg a).1 hT 1 b)).trans (KeepsS.set (set_j3 (set_j3 hg a).1 b).2.1 hT 2 c)
theorem inner_no {s:ByteArray} (h:¬innerOk s):innerR s=none:=if_neg h
theorem inner_path {s:ByteArray} (h:innerOk s) (hp:pathR s (rd s (rt s (rd s 0).2.1).2.1).1.toNat (rd s (rt s (rd s 0).2.1).2.1).2.1 []=none):innerR s=none:=by
 unfold innerR
 rw[if_pos h,hp]
theorem inner_yes {s:ByteArray} {q:List ByteArray × Nat} (h:innerOk s) (hp:pathR s (rd s (rt s (rd s 0).2.1).2.1).1.toNat (rd s (rt s (rd s 0).2.1).2.1).2.1 []=some q):innerR s=if q.2=s.size then some ((rd s 0).1,(rt s (rd s 0).2.1).1,q.1) else none:=by
 unfold innerR
 rw[if_pos h,hp]
def PathO (B:Nat) (W:World) (v:Value) (p:List ByteArray):Prop:=OwnS W B v p
theorem PathO.keeps {B:Nat} {W W':World} {v:Value} {p:List ByteArray} (h:PathO B W v p) (k:KeepsS W W'):PathO B W' v p:=by
 obtain⟨hl,h⟩:=h
 refine⟨hl,?_⟩
 rcases h with h|⟨g,cap,cur,hv,hg,hb,rest⟩
 ·exact .inl h
 ·exact .inr ⟨g,cap,cur,hv,hg,k g cur hb,rest⟩
theorem PathO.drew {B:Nat} {W:World} {v:Value} {p:List ByteArray} (h:PathO B W v p):PathO B W.drew v p:=h.keeps (fun _ _ e=>e)
theorem PathO.mono {B C:Nat} {W:World} {v:Value} {p:List ByteArray} (h:PathO B W v p) (hB:C<=B):PathO C W v p:=OwnS.mono h hB
theorem PathO.strs {B:Nat} {W:World} {v:Value} {p:List ByteArray} (h:PathO B W v p):∃ a cap,v=.slice a p.length cap/\p.length<=cap/\Strs W W.heap.size a p:=OwnS.strs h
theorem readInner_any (s:ByteArray) (w:World) (hs:s.size<=1048576) (hh:HH w) :
  Calls Tryz.prog 137 #[.string s] w fun r w' =>
   ((∃ x v,innerR s=some x/\r=.returned (.tuple #[.agg #[.int .i64 x.1,.string x.2.1,v],.bool true])/\PathO w.heap.size w' v x.2.2) ∨
   (innerR s=none/\r=.returned (.tuple #[.agg #[.int .i64 0,.string ⟨#[]⟩,.slice none 0 0],.bool false])))/\Below w.heap.size w w':=by
 have HHW:Hid (∀ W,Below w.heap.size w W->HH W):=fun W h=>hh_keep hh h
 have hs2:s.size<=maxLen:=by unfold maxLen;omega
 have H1:=hideK (fun W h=>Gn.get_impl s 0 W hs2 h)
 have H2:=hideK (fun W h=>Gn.text_impl s (rd s 0).2.1 W hs2 h)
 have H3:=hideK (fun W h=>Gn.get_impl s (rt s (rd s 0).2.1).2.1 W hs2 h)
 have HP:=hideK (fun n W hn=>readPath_any s (rd s (rt s (rd s 0).2.1).2.1).2.1 n W hs2 hn)
 rw[num_all]at H1 H3
 rw[text_all]at H2
 have HNO:=hideK (inner_no (s:=s))
 have HPA:=hideK (inner_path (s:=s))
 have HYE:=hideK (fun q=>inner_yes (s:=s) (q:=q))
 change Hid (∀ W,HH W->_) at H1 H2 H3
 unfold innerOk at HNO HPA HYE
 generalize innerR s=R at HNO HPA HYE ⊢
 generalize rd s (rt s (rd s 0).2.1).2.1=x3 at H3 HP HNO HPA HYE
 generalize rt s (rd s 0).2.1=x2 at H2 H3 HNO HPA HYE
 generalize rd s 0=x1 at H1 H2 HNO HPA HYE
 obtain⟨i,p1,c1⟩:=x1
 obtain⟨t,p2,c2⟩:=x2
 obtain⟨n,p3,c3⟩:=x3
 dsimp only at H1 H2 H3 HP HNO HPA HYE
 clear hh
 go_enter Tryz.func137,Tryz.ntmps137
 go_wp2_with fail
 have C0:=hideK ((Cx.nil w).new (.cells #[.int .i64 0,.string ⟨#[]⟩,.slice none 0 0] 129))
 generalize w.alloc (.cells #[.int .i64 0,.string ⟨#[]⟩,.slice none 0 0] 129)=W0 at C0 ⊢
 refine(H1.out _ (HHW.out _ C0.out.low)).mono ?_
 rintro e v1 ⟨rfl,hb⟩
 have C1:=hideK ((C0.out.call hb).new (.cells #[.int .i64 i,.int .i64 p1,.int .i64 c1] 183))
 clear hb C0
 go_wp2_with fail
 generalize v1.alloc (.cells #[.int .i64 i,.int .i64 p1,.int .i64 c1] 183)=W1 at C1 ⊢
 refine(H2.out _ (HHW.out _ C1.out.low)).mono ?_
 rintro e v2 ⟨rfl,hb⟩
 have C2:=hideK ((C1.out.call hb).new (.cells #[.string t,.int .i64 p2,.int .i64 c2] 179))
 clear hb C1
 go_wp2_with fail
 generalize v2.alloc (.cells #[.string t,.int .i64 p2,.int .i64 c2] 179)=W2 at C2 ⊢
 refine(H3.out _ (HHW.out _ C2.out.low)).mono ?_
 rintro e v3 ⟨rfl,hb⟩
 have C3:=hideK ((C2.out.call hb).new (.cells #[.int .i64 n,.int .i64 p3,.int .i64 c3] 183))
 clear hb C2
 go_upto_region 4 with fail
 generalize v3.alloc (.cells #[.int .i64 n,.int .i64 p3,.int .i64 c3] 183)=W3 at C3 ⊢
 obtain⟨a0,a1,a2⟩:=cells3 (C3.out.get 2 rfl)
 obtain⟨b0,b1,b2⟩:=cells3 (C3.out.get 1 rfl)
 obtain⟨d0,d1,d2⟩:=cells3 (C3.out.get 0 rfl)
 obtain⟨q0,q1,q2⟩:=cells3 (C3.out.get 3 rfl)
 have ff:=fun o=>frozen_of_row W3 w.heap.size o _ _ (C3.out.get 3 rfl)
 have s3:=set3_all (C3.out.get 3 rfl) (.int .i64 0) (.string ⟨#[]⟩) (.slice none 0 0)
 have E3:=hideK (set3_low C3.out.low (Nat.le_refl _) (.int .i64 0) (.string ⟨#[]⟩) (.slice none 0 0))
 generalize v1.heap.size=g1 at C3 a0 a1 a2 ⊢
 generalize v2.heap.size=g2 at C3 b0 b1 b2 ⊢
 generalize v3.heap.size=g3 at C3 d0 d1 d2 ⊢
 by_cases h1:c1=0
 ·have h1':(c1 != 0)=false:=by simp;exact h1
  by_cases h2:c2=0
  ·have h2':(c2 != 0)=false:=by simp;exact h2
   by_cases h3:c3=0
   ·have h3':(c3 != 0)=false:=by simp;exact h3
    have K:=hideK (And.intro h1 (And.intro h2 h3))
    clear h1 h2 h3
    by_cases h4:n<0
    ·have HX:=hideK (HNO.out (fun h=>by omega))
     go_wp2_with fail
     refine bodyPost_ret (v:=.tuple #[.agg #[.int .i64 0,.string ⟨#[]⟩,.slice none 0 0],.bool false]) (by simp[results,Tryz.results137,go_sem,s3.1,s3.2.1,s3.2.2]) rfl ⟨.inr ⟨HX.out,rfl⟩,E3.out⟩
    ·by_cases h5:(20:Int)<n
     ·have HX:=hideK (HNO.out (fun h=>by omega))
      go_wp2_with fail
      refine bodyPost_ret (v:=.tuple #[.agg #[.int .i64 0,.string ⟨#[]⟩,.slice none 0 0],.bool false]) (by simp[results,Tryz.results137,go_sem,s3.1,s3.2.1,s3.2.2]) rfl ⟨.inr ⟨HX.out,rfl⟩,E3.out⟩
     ·have HOK:=hideK (And.intro K.out.1 (And.intro K.out.2.1 (And.intro K.out.2.2 (And.intro (show 0<=n by omega) (show n<=20 by omega)))))
      obtain⟨k,rfl⟩:=Int.eq_ofNat_of_zero_le (show 0<=n by omega)
      have HPK:=hideK (fun W=>HP.out k W (by omega))
      have HPA1:=hideK (HPA.out HOK.out)
      have HYE1:=hideK (fun q=>HYE.out q HOK.out)
      simp only[Int.toNat_natCast]at HPA1 HYE1
      generalize pathR s k p3 []=Q at HPK HPA1 HYE1
      clear HNO HPA HYE HP HOK K E3 s3 h4
      go_wp2_with fail
      refine(HPK.out _).mono ?_
      rintro e v4 ⟨⟨q,v,hq,rfl,ho⟩|⟨hq,c,rfl⟩,hb⟩
      ·obtain⟨ap,cp,rfl,_,_⟩:=ho.strs
       have O:=hideK ho
       have O0:=hideK C3.out.low.size
       have C4:=hideK (C3.out.call hb)
       have HY:=hideK (HYE1.out q hq)
       obtain⟨a0,a1,a2⟩:=cells3 (C4.out.get 2 rfl)
       obtain⟨b0,b1,b2⟩:=cells3 (C4.out.get 1 rfl)
       obtain⟨q0,q1,q2⟩:=cells3 (C4.out.get 3 rfl)
       have ff:=fun o=>frozen_of_row v4 w.heap.size o _ _ (C4.out.get 3 rfl)
       clear ho hb C3 HYE1 HPA1 hq
       by_cases he:q.2=s.size
       ·have he':((q.2:Int) != (s.size:Int))=false:=by simp;omega
        rw[if_pos he]at HY
        have s3:=set3_all (C4.out.get 3 rfl) (.int .i64 i) (.string t) (.slice ap q.1.length cp)
        have E3:=hideK (set3_low C4.out.low (Nat.le_refl _) (.int .i64 i) (.string t) (.slice ap q.1.length cp))
        have O3:Hid (PathO w.heap.size (((v4.setCell ⟨w.heap.size,0,none⟩ (.int .i64 i)).setCell ⟨w.heap.size,1,none⟩ (.string t)).setCell ⟨w.heap.size,2,none⟩ (.slice ap q.1.length cp)) (.slice ap q.1.length cp) q.1):=PathO.keeps (PathO.mono O.out O0.out) (KeepsS.set3 (C4.out.get 3 rfl) (by decide) _ _ _)
        go_wp2_with fail
        refine bodyPost_ret (v:=.tuple #[.agg #[.int .i64 i,.string t,.slice ap q.1.length cp],.bool true]) (by simp[results,Tryz.results137,go_sem,s3.1,s3.2.1,s3.2.2]) rfl ⟨.inl ⟨(i,t,q.1),_,HY.out,rfl,O3.out⟩,E3.out⟩
       ·have he':((q.2:Int) != (s.size:Int))=true:=by simp;omega
        rw[if_neg he]at HY
        have s3:=set3_all (C4.out.get 3 rfl) (.int .i64 0) (.string ⟨#[]⟩) (.slice none 0 0)
        have E3:=hideK (set3_low C4.out.low (Nat.le_refl _) (.int .i64 0) (.string ⟨#[]⟩) (.slice none 0 0))
        go_wp2_with fail
        refine bodyPost_ret (v:=.tuple #[.agg #[.int .i64 0,.string ⟨#[]⟩,.slice none 0 0],.bool false]) (by simp[results,Tryz.results137,go_sem,s3.1,s3.2.1,s3.2.2]) rfl ⟨.inr ⟨HY.out,rfl⟩,E3.out⟩
      ·have C4:=hideK (C3.out.call hb)
       have HX:=hideK (HPA1.out hq)
       obtain⟨q0,q1,q2⟩:=cells3 (C4.out.get 3 rfl)
       have ff:=fun o=>frozen_of_row v4 w.heap.size o _ _ (C4.out.get 3 rfl)
       have s3:=set3_all (C4.out.get 3 rfl) (.int .i64 0) (.string ⟨#[]⟩) (.slice none 0 0)
       have E3:=hideK (set3_low C4.out.low (Nat.le_refl _) (.int .i64 0) (.string ⟨#[]⟩) (.slice none 0 0))
       clear hb C3 HYE1 HPA1 hq
       go_wp2_with fail
       refine bodyPost_ret (v:=.tuple #[.agg #[.int .i64 0,.string ⟨#[]⟩,.slice none 0 0],.bool false]) (by simp[results,Tryz.results137,go_sem,s3.1,s3.2.1,s3.2.2]) rfl ⟨.inr ⟨HX.out,rfl⟩,E3.out⟩
   ·have h3':(c3 != 0)=true:=by simp;exact h3
    have HX:=hideK (HNO.out (fun h=>h3 h.2.2.1))
    go_wp2_with fail
    refine bodyPost_ret (v:=.tuple #[.agg #[.int .i64 0,.string ⟨#[]⟩,.slice none 0 0],.bool false]) (by simp[results,Tryz.results137,go_sem,s3.1,s3.2.1,s3.2.2]) rfl ⟨.inr ⟨HX.out,rfl⟩,E3.out⟩
  ·have h2':(c2 != 0)=true:=by simp;exact h2
   have HX:=hideK (HNO.out (fun h=>h2 h.2.1))
   go_wp2_with fail
   refine bodyPost_ret (v:=.tuple #[.agg #[.int .i64 0,.string ⟨#[]⟩,.slice none 0 0],.bool false]) (by simp[results,Tryz.results137,go_sem,s3.1,s3.2.1,s3.2.2]) rfl ⟨.inr ⟨HX.out,rfl⟩,E3.out⟩
 ·have h1':(c1 != 0)=true:=by simp;exact h1
  have HX:=hideK (HNO.out (fun h=>h1 h.1))
  go_wp2_with fail
  refine bodyPost_ret (v:=.tuple #[.agg #[.int .i64 0,.string ⟨#[]⟩,.slice none 0 0],.bool false]) (by simp[results,Tryz.results137,go_sem,s3.1,s3.2.1,s3.2.2]) rfl ⟨.inr ⟨HX.out,rfl⟩,E3.out⟩
end Go.Proofs.YtpddanmnlkcdpaaGreatDoor.Kp


namespace Go.Proofs.YtpddanmnlkcdpaaGreatDoor.Kp
open Go.RowKit
open Gn (rd rt)
open Ls (HH hh_keep num_all text_all cells3 set3_all set_j3)
theorem rec_no {s:ByteArray} {e:Nat} (h:¬((rt s e).2.2=0/\usC (rt s e).1=0)):recR s e=none:=if_neg h
theorem rec_yes {s:ByteArray} {e:Nat} (h:(rt s e).2.2=0/\usC (rt s e).1=0):recR s e=(innerR (usT (rt s e).1)).map (fun r=>(r,(rt s e).2.1)):=if_pos h
theorem usT_size (s:ByteArray) (h:s.size<=8000):(usT s).size<=8000:=by
 unfold usT
 split
 ·exact Nat.zero_le _
 ·split
  ·exact Nat.zero_le _
  ·split
   ·rw[ByteArray.size_extract];omega
   ·exact Nat.zero_le _
theorem rt_size8 (s:ByteArray) (a:Int):(rt s a).1.size<=8000:=by
 by_cases h:(rt s a).2.2=0
 ·exact(rt_more s a h).2.2.2
 ·rw[(Gn.rt_codes s a h).1]
  exact Nat.zero_le _
theorem pathIn_drew {W:World} {v:Value} {p:List ByteArray} (h:PathIn W v p):PathIn W.drew v p:=h.keeps (fun _ _ e=>e)
def RecOut (B:Nat) (R:Option (Rec × Nat)) (r:Ending) (w':World):Prop :=
 (∃ x v,R=some x/\r=.returned (.tuple #[.agg #[.int .i64 x.1.1,.string x.1.2.1,v],.int .i64 x.2,.bool true])/\PathO B w' v x.1.2.2) ∨
 (R=none/\∃ n:Int,r=.returned (.tuple #[.agg #[.int .i64 0,.string ⟨#[]⟩,.slice none 0 0],.int .i64 n,.bool false]))
theorem readRecord_any (s:ByteArray) (e:Nat) (w:World) (hs:s.size<=1048576) (hh:HH w) :
  Calls Tryz.prog 106 #[.string s,.int .i64 e] w fun r w' =>
   RecOut w.heap.size (recR s e) r w'/\Below w.heap.size w w':=by
 have HHW:Hid (∀ W,Below w.heap.size w W->HH W):=fun W h=>hh_keep hh h
 have hs2:s.size<=maxLen:=by unfold maxLen;omega
 have H1:=hideK (fun W h=>Gn.text_impl s e W hs2 h)
 have H2:=hideK (fun W=>Se.unseal_impl (rt s e).1 W (by have:=rt_size8 s e;unfold maxLen;omega))
 have H3:=hideK (fun W h=>readInner_any (usT (rt s e).1) W (by have:=usT_size _ (rt_size8 s e);omega) h)
 rw[text_all]at H1
 simp only[unseal_all]at H2
 have HNO:=hideK (rec_no (s:=s) (e:=e))
 have HYE:=hideK (rec_yes (s:=s) (e:=e))
 change Hid (∀ W,HH W->_) at H1 H3
 generalize recR s e=R at HNO HYE ⊢
 generalize rt s e=x1 at H1 H2 H3 HNO HYE
 obtain⟨t,p1,c1⟩:=x1
 dsimp only at H1 H2 H3 HNO HYE
 generalize usC t=c2 at H2 HNO HYE
 generalize usT t=u at H2 H3 HYE
 generalize innerR u=I at H3 HYE
 clear hh
 go_enter Tryz.func106,Tryz.ntmps106
 go_wp2_with fail
 have C0:=hideK ((Cx.nil w).new (.cells #[.int .i64 0,.string ⟨#[]⟩,.slice none 0 0] 129))
 generalize w.alloc (.cells #[.int .i64 0,.string ⟨#[]⟩,.slice none 0 0] 129)=W0 at C0 ⊢
 refine(H1.out _ (HHW.out _ C0.out.low)).mono ?_
 rintro e v1 ⟨rfl,hb⟩
 have C1:=hideK ((C0.out.call hb).new (.cells #[.string t,.int .i64 p1,.int .i64 c1] 179))
 clear hb C0
 go_wp2_with fail
 generalize v1.alloc (.cells #[.string t,.int .i64 p1,.int .i64 c1] 179)=W1 at C1 ⊢
 refine(H2.out _).mono ?_
 rintro e v2 ⟨rfl,hb⟩
 have C2:=hideK ((C1.out.call hb).new (.cells #[.string u,.int .i64 0,.int .i64 c2] 179))
 clear hb C1
 go_upto_region 3 with fail
 generalize v2.alloc (.cells #[.string u,.int .i64 0,.int .i64 c2] 179)=W2 at C2 ⊢
 obtain⟨a0,a1,a2⟩:=cells3 (C2.out.get 1 rfl)
 obtain⟨b0,b1,b2⟩:=cells3 (C2.out.get 0 rfl)
 obtain⟨q0,q1,q2⟩:=cells3 (C2.out.get 2 rfl)
 have ff:=fun o=>frozen_of_row W2 w.heap.size o _ _ (C2.out.get 2 rfl)
 have s3:=set3_all (C2.out.get 2 rfl) (.int .i64 0) (.string ⟨#[]⟩) (.slice none 0 0)
 have E3:=hideK (set3_low C2.out.low (Nat.le_refl _) (.int .i64 0) (.string ⟨#[]⟩) (.slice none 0 0))
 generalize v1.heap.size=g1 at C2 a0 a1 a2 ⊢
 generalize v2.heap.size=g2 at C2 b0 b1 b2 ⊢
 by_cases h1:c1=0
 ·have h1':(c1 != 0)=false:=by simp;exact h1
  by_cases h2:c2=0
  ·have h2':(c2 != 0)=false:=by simp;exact h2
   have HY:=hideK (HYE.out ⟨h1,h2⟩)
   clear h1 h2 HNO HYE E3 s3
   go_wp2_with fail
   refine(H3.out _ (HHW.out _ C2.out.low)).mono ?_
   rintro e v3 ⟨⟨x,v,hx,rfl,ho⟩|⟨hx,rfl⟩,hb⟩
   ·obtain⟨ap,cp,rfl,_,_⟩:=ho.strs
    have C3:=hideK ((C2.out.call hb).new (.cells #[.int .i64 x.1,.string x.2.1,.slice ap x.2.2.length cp] 129))
    have O3:=hideK ((ho.mono C2.out.low.size).keeps (KeepsS.below ((Below.refl _ v3).alloc (Nat.le_refl _) (.cells #[.int .i64 x.1,.string x.2.1,.slice ap x.2.2.length cp] 129))))
    rw[hx]at HY
    clear hb C2 ho hx
    obtain⟨i,t2,p⟩:=x
    dsimp only at C3 O3 HY ⊢
    go_upto_region 6 with fail
    generalize v3.alloc (.cells #[.int .i64 i,.string t2,.slice ap p.length cp] 129)=W3 at C3 O3 ⊢
    obtain⟨d0,d1,d2⟩:=cells3 (C3.out.get 0 rfl)
    obtain⟨a0,a1,a2⟩:=cells3 (C3.out.get 2 rfl)
    obtain⟨q0,q1,q2⟩:=cells3 (C3.out.get 3 rfl)
    have ff:=fun o=>frozen_of_row W3 w.heap.size o _ _ (C3.out.get 3 rfl)
    have n1:=ty_ne (C3.out.get 3 rfl) (C3.out.get 2 rfl) (by decide)
    have n2:¬g1=w.heap.size:=fun h=>n1 h.symm
    have s3:=set3_all (C3.out.get 3 rfl) (.int .i64 i) (.string t2) (.slice ap p.length cp)
    have E3:=hideK (set3_low C3.out.low (Nat.le_refl _) (.int .i64 i) (.string t2) (.slice ap p.length cp)).drew
    have O4:Hid (PathO w.heap.size (((W3.setCell ⟨w.heap.size,0,none⟩ (.int .i64 i)).setCell ⟨w.heap.size,1,none⟩ (.string t2)).setCell ⟨w.heap.size,2,none⟩ (.slice ap p.length cp)).drew (.slice ap p.length cp) p):=PathO.drew (PathO.keeps O3.out (KeepsS.set3 (C3.out.get 3 rfl) (by decide) _ _ _))
    go_region
    all_goals (
     go_wp2_with fail
     exact bodyPost_ret (v:=.tuple #[.agg #[.int .i64 i,.string t2,.slice ap p.length cp],.int .i64 p1,.bool true]) (by simp[results,Tryz.results106,go_sem,s3.1,s3.2.1,s3.2.2]) rfl ⟨.inl ⟨((i,t2,p),p1),_,HY.out,rfl,O4.out⟩,E3.out⟩)
   ·have C3:=hideK ((C2.out.call hb).new (.cells #[.int .i64 0,.string ⟨#[]⟩,.slice none 0 0] 129))
    rw[hx]at HY
    clear hb C2 hx
    go_upto_region 6 with fail
    generalize v3.alloc (.cells #[.int .i64 0,.string ⟨#[]⟩,.slice none 0 0] 129)=W3 at C3 ⊢
    obtain⟨d0,d1,d2⟩:=cells3 (C3.out.get 0 rfl)
    obtain⟨a0,a1,a2⟩:=cells3 (C3.out.get 2 rfl)
    obtain⟨q0,q1,q2⟩:=cells3 (C3.out.get 3 rfl)
    have ff:=fun o=>frozen_of_row W3 w.heap.size o _ _ (C3.out.get 3 rfl)
    have n1:=ty_ne (C3.out.get 3 rfl) (C3.out.get 2 rfl) (by decide)
    have n2:¬g1=w.heap.size:=fun h=>n1 h.symm
    have s3:=set3_all (C3.out.get 3 rfl) (.int .i64 0) (.string ⟨#[]⟩) (.slice none 0 0)
    have E3:=hideK (set3_low C3.out.low (Nat.le_refl _) (.int .i64 0) (.string ⟨#[]⟩) (.slice none 0 0)).drew
    go_region
    all_goals (
     go_wp2_with fail
     exact bodyPost_ret (v:=.tuple #[.agg #[.int .i64 0,.string ⟨#[]⟩,.slice none 0 0],.int .i64 p1,.bool false]) (by simp[results,Tryz.results106,go_sem,s3.1,s3.2.1,s3.2.2]) rfl ⟨.inr ⟨HY.out,p1,rfl⟩,E3.out⟩)
  ·have h2':(c2 != 0)=true:=by simp;exact h2
   have HX:=hideK (HNO.out (fun h=>h2 h.2))
   go_wp2_with fail
   exact bodyPost_ret (v:=.tuple #[.agg #[.int .i64 0,.string ⟨#[]⟩,.slice none 0 0],.int .i64 0,.bool false]) (by simp[results,Tryz.results106,go_sem,s3.1,s3.2.1,s3.2.2]) rfl ⟨.inr ⟨HX.out,0,rfl⟩,E3.out⟩
 ·have h1':(c1 != 0)=true:=by simp;exact h1
  have HX:=hideK (HNO.out (fun h=>h1 h.1))
  go_wp2_with fail
  exact bodyPost_ret (v:=.tuple #[.agg #[.int .i64 0,.string ⟨#[]⟩,.slice none 0 0],.int .i64 0,.bool false]) (by simp[results,Tryz.results106,go_sem,s3.1,s3.2.1,s3.2.2]) rfl ⟨.inr ⟨HX.out,0,rfl⟩,E3.out⟩
end Go.Proofs.YtpddanmnlkcdpaaGreatDoor.Kp


namespace Go.Proofs.YtpddanmnlkcdpaaGreatDoor.Kp
open Go.RowKit
open Ls (cells3 set3_all)
theorem find_none {m:List MR} {i:Int} (h:∀ j (hj:j<m.length),¬m[j].1.1=i):hasR (recs m) i=false:=by
 rw[hasR_recs,<-Bool.not_eq_true,List.any_eq_true]
 rintro⟨x,hx,he⟩
 obtain⟨j,hj,rfl⟩:=List.getElem_of_mem hx
 exact h j hj (by simpa using he)
theorem find_some {m:List MR} {i:Int} {j:Nat} (hj:j<m.length) (h:m[j].1.1=i):hasR (recs m) i=true:=by
 rw[hasR_recs,List.any_eq_true]
 exact⟨m[j],List.getElem_mem hj,by simpa using h⟩
theorem find_any (g base n:Nat) (i:Int) (v:Value) (m:List MR) (w:World) (hc:w.cell? ⟨g,0,none⟩=some v) (hg:g<w.heap.size) (ho:OwnR w base v m) (hsl:∀ x∈m,∃ a n cap,x.2=.slice a n cap) (hn:m.length=n) (hm:n<=1048576) :
  Calls Tryz.prog 129 #[.pointer (some ⟨g,0,none⟩),.int .i64 i] w fun r w' =>
   ((∃ (j:Nat) (hj:j<m.length),m[j].1.1=i/\(∀ k (hk:k<j),¬(m[k]'(Nat.lt_trans hk hj)).1.1=i)/\r=.returned (.tuple #[.agg #[.int .i64 i,.string m[j].1.2.1,m[j].2],.bool true])) ∨
   ((∀ j (hj:j<m.length),¬m[j].1.1=i)/\r=.returned (.tuple #[.agg #[.int .i64 0,.string ⟨#[]⟩,.slice none 0 0],.bool false])))/\Below w.heap.size w w':=by
 have HN:=hideK hn
 obtain⟨a,cap,rfl⟩:=ho.one
 have HC:=hideK (fun h0=>ho.cells h0)
 rw[hn]at hc
 have C0:=hideK ((Cx.nil w).new (.cells #[.int .i64 0,.string ⟨#[]⟩,.slice none 0 0] 129))
 have hc0:(w.alloc (.cells #[.int .i64 0,.string ⟨#[]⟩,.slice none 0 0] 129)).cell? ⟨g,0,none⟩=some (.slice a n cap):=(C0.out.low.cell (p:=⟨g,0,none⟩) hg).trans hc
 have HSL:=hideK hsl
 clear hc ho hn hsl
 go_enter Tryz.func129,Tryz.ntmps129
 go_wp2_with fail
 go_loopw [13,7] (fun jv _ wr=>∃ (j:Nat),jv=.int .i64 j/\j<=n/\(∀ k (hk:k<m.length),k<j->¬m[k].1.1=i)/\Cx w wr [(w.heap.size,.cells #[.int .i64 0,.string ⟨#[]⟩,.slice none 0 0] 129)]) (fun jv _ _=>n-(intOf jv).toNat)
 case atStart=>exact⟨0,rfl,Nat.zero_le _,fun k _ h=>absurd h (Nat.not_lt_zero _),C0.out⟩
 case round =>
  obtain⟨j,rfl,hj,hno,hcx⟩:=hrel
  have NO:=hideK hno
  have CX:=hideK hcx
  clear hno hcx
  by_cases hlt:j<n
  ·have hlt':(j:Int)<(n:Int):=by omega
   have hjm:j<m.length:=by rw[HN.out];exact hlt
   obtain⟨gr,cp,hv,_,hgl,_,hcl⟩:=HC.out (by rw[HN.out];omega)
   cases hv
   obtain⟨e0,e1,e2⟩:=hcl j hjm
   have c0:=(CX.out.low.cell (p:=⟨gr,j*3,none⟩) hgl).trans e0
   have c1:=(CX.out.low.cell (p:=⟨gr,j*3+1,none⟩) hgl).trans e1
   have c2:=(CX.out.low.cell (p:=⟨gr,j*3+2,none⟩) hgl).trans e2
   have HI:Hid (∀ x:MR,x=m[j]->x.1.1=i->(∃ (j:Nat) (hj:j<m.length),m[j].1.1=i/\(∀ k (hk:k<j),¬(m[k]'(Nat.lt_trans hk hj)).1.1=i)/\(.tuple #[.agg #[.int .i64 i,.string x.1.2.1,x.2],.bool true]:Value)=.tuple #[.agg #[.int .i64 i,.string m[j].1.2.1,m[j].2],.bool true])):=fun x hx he=>⟨j,hjm,by rw[<-hx];exact he,fun k hk=>NO.out k (Nat.lt_trans hk hjm) hk,by rw[hx]⟩
   have HQ:Hid (∀ x:MR,x=m[j]->¬x.1.1=i->∀ k (hk:k<m.length),k<j+1->¬m[k].1.1=i):=fun x hx he k hk hk1=>by
    by_cases hkj:k<j
    ·exact NO.out k hk hkj
    ·have:k=j:=by omega
     subst this
     rw[<-hx]
     exact he
   obtain⟨x,hx⟩:∃ x,x=m[j]:=⟨_,rfl⟩
   obtain⟨ap,np,cp,hxv⟩:=HSL.out x (by rw[hx];exact List.getElem_mem hjm)
   have HI1:=hideK (HI.out x hx)
   have HQ1:=hideK (HQ.out x hx)
   rw[<-hx]at c0 c1 c2
   clear e0 e1 e2 hcl hx HI HQ hjm
   obtain⟨⟨xi,xt,xp⟩,xv⟩:=x
   dsimp only at c0 c1 c2 HI1 HQ1 hxv
   subst hxv
   have C1:=hideK (CX.out.new (.cells #[.int .i64 xi,.string xt,.slice ap np cp] 129))
   go_upto_region 4 with fail
   generalize wr.alloc (.cells #[.int .i64 xi,.string xt,.slice ap np cp] 129)=W1 at C1 ⊢
   generalize wr.heap.size=g1 at C1 ⊢
   obtain⟨q0,q1,q2⟩:=cells3 (C1.out.get 1 rfl)
   obtain⟨d0,d1,d2⟩:=cells3 (C1.out.get 0 rfl)
   clear c0 c1 c2
   by_cases he:xi=i
   ·subst he
    have HI2:=hideK (HI1.out rfl)
    have ff:=fun o=>frozen_of_row W1 w.heap.size o _ _ (C1.out.get 1 rfl)
    have s3:=set3_all (C1.out.get 1 rfl) (.int .i64 xi) (.string xt) (.slice ap np cp)
    have E3:=hideK (set3_low C1.out.low (Nat.le_refl _) (.int .i64 xi) (.string xt) (.slice ap np cp))
    go_wp2_with fail
    obtain⟨jj,hjj,k1,k2,k3⟩:=HI2.out
    exact bodyPost_ret (v:=.tuple #[.agg #[.int .i64 xi,.string xt,.slice ap np cp],.bool true]) (by simp[results,Tryz.results129,go_sem,s3.1,s3.2.1,s3.2.2]) rfl ⟨.inl ⟨jj,hjj,k1,k2,by rw[k3]⟩,E3.out⟩
   ·have he':(xi==i)=false:=beq_eq_false_iff_ne.2 he
    have HQ2:=hideK (HQ1.out he)
    clear he
    have C2:Hid (Cx w W1 [(w.heap.size,.cells #[.int .i64 0,.string ⟨#[]⟩,.slice none 0 0] 129)]):=⟨C1.out.low,fun x hx=>C1.out.blk x (List.mem_cons_of_mem _ hx)⟩
    go_wp2_with fail
    go_roundw
    case rel=>exact⟨j+1,by go_num,by omega,HQ2.out,C2.out⟩
    case measure=>simp[intOf];omega
  ·obtain rfl:j=n:=by omega
   have NN:Hid (∀ k (hk:k<m.length),¬m[k].1.1=i):=fun k hk=>NO.out k hk (by rw[<-HN.out];exact hk)
   obtain⟨q0,q1,q2⟩:=cells3 (CX.out.get 0 rfl)
   have ff:=fun o=>frozen_of_row wr w.heap.size o _ _ (CX.out.get 0 rfl)
   have s3:=set3_all (CX.out.get 0 rfl) (.int .i64 0) (.string ⟨#[]⟩) (.slice none 0 0)
   have E3:=hideK (set3_low CX.out.low (Nat.le_refl _) (.int .i64 0) (.string ⟨#[]⟩) (.slice none 0 0))
   go_wp2_with fail
   exact bodyPost_ret (v:=.tuple #[.agg #[.int .i64 0,.string ⟨#[]⟩,.slice none 0 0],.bool false]) (by simp[results,Tryz.results129,go_sem,s3.1,s3.2.1,s3.2.2]) rfl ⟨.inr ⟨NN.out,rfl⟩,E3.out⟩
theorem has_any (g base n:Nat) (i:Int) (v:Value) (m:List MR) (w:World) (hc:w.cell? ⟨g,0,none⟩=some v) (hg:g<w.heap.size) (ho:OwnR w base v m) (hsl:∀ x∈m,∃ a n cap,x.2=.slice a n cap) (hn:m.length=n) (hm:n<=1048576) :
  Calls Tryz.prog 98 #[.pointer (some ⟨g,0,none⟩),.int .i64 i] w fun r w'=>r=.returned (.bool (hasR (recs m) i))/\Below w.heap.size w w':=by
 have HF:=hideK (find_any g base n i v m w hc hg ho hsl hn hm)
 have HSL:=hideK hsl
 clear hc ho hsl
 go_enter Tryz.func98,Tryz.ntmps98
 go_wp2_with fail
 refine HF.out.mono ?_
 rintro e w1 ⟨⟨j,hj,he,_,rfl⟩|⟨hno,rfl⟩,hb⟩
 ·obtain⟨ap,np,cp,hv⟩:=HSL.out m[j] (List.getElem_mem hj)
  rw[hv]
  have HB:=hideK (hb.alloc hb.size (.cells #[.int .i64 i,.string m[j].1.2.1,.slice ap np cp] 129))
  have HH:=hideK (find_some hj he)
  clear hb he
  go_wp2_with fail
  go_ret
  exact⟨by rw[HH.out];rfl,HB.out⟩
 ·have HB:=hideK (hb.alloc hb.size (.cells #[.int .i64 0,.string ⟨#[]⟩,.slice none 0 0] 129))
  have HH:=hideK (find_none hno)
  clear hb hno
  go_wp2_with fail
  go_ret
  exact⟨by rw[HH.out];rfl,HB.out⟩
end Go.Proofs.YtpddanmnlkcdpaaGreatDoor.Kp


namespace Go.Proofs.YtpddanmnlkcdpaaGreatDoor.Kp
open Go.RowKit
open Ls (cells3 lowL blkL lm_alloc lm_drew)
open St (OwnS Strs one_newS one_cellS app_one)
open Nu (putS putT)
open Pk (cat join_any)
def partsR (x:Rec) (j:Nat):List ByteArray:=[putS x.1,putT x.2.1,putS (x.2.2.length:Nat)]++(x.2.2.take j).map putT
def innerT (x:Rec):ByteArray:=⟨(cat (partsR x x.2.2.length)).toArray⟩
def recT (x:Rec):ByteArray:=putT (Se.sealV (innerT x))
theorem putT_size (t:ByteArray):(putT t).size<=8010:=by
 unfold putT
 split
 ·rw[ByteArray.size_append]
  have:=Nu.putS_size (t.size:Int)
  omega
 ·exact Nat.zero_le _
theorem cat_le:∀ l:List ByteArray,(∀ q∈l,q.size<=8010)->(cat l).length<=8010*l.length
 |[],_=>Nat.le_refl _
 |a :: l,h=>by
  have h1:=cat_le l (fun q hq=>h q (List.mem_cons_of_mem _ hq))
  have h2:=h a List.mem_cons_self
  unfold cat at h1 ⊢
  rw[List.flatMap_cons,List.length_append,List.length_cons]
  have h3:a.data.toList.length=a.size:=rfl
  omega
theorem partsR_len (x:Rec) (j:Nat) (h:j<=x.2.2.length):(partsR x j).length=3+j:=by
 unfold partsR
 rw[List.length_append,List.length_map,List.length_take]
 show 3+_=_
 omega
theorem partsR_cat (x:Rec) (j:Nat) (h:j<=x.2.2.length):(cat (partsR x j)).length<=8010*(3+j):=by
 rw[<-partsR_len x j h]
 refine cat_le _ (fun q hq=>?_)
 unfold partsR at hq
 rcases List.mem_append.1 hq with hq|hq
 ·simp only[List.mem_cons,List.not_mem_nil,or_false]at hq
  rcases hq with rfl|rfl|rfl
  ·have:=Nu.putS_size x.1;omega
  ·exact putT_size _
  ·have:=Nu.putS_size ((x.2.2.length:Nat):Int);omega
 ·obtain⟨t,_,rfl⟩:=List.mem_map.1 hq
  exact putT_size t
theorem partsR_next (x:Rec) (j:Nat) (h:j<x.2.2.length):partsR x (j+1)=partsR x j++[putT x.2.2[j]]:=by
 unfold partsR
 rw[List.append_assoc,List.take_add_one,List.getElem?_eq_getElem h,List.map_append]
 rfl
theorem innerT_size (x:Rec) (h:x.2.2.length<=20):(innerT x).size<=1048576:=by
 have:=partsR_cat x _ (Nat.le_refl _)
 show (cat _).toArray.size<=_
 rw[List.size_toArray]
 omega
theorem sealV_size (t:ByteArray):(Se.sealV t).size<=8000:=by
 unfold Se.sealV
 split
 ·rw[ByteArray.size_append,Se.fourS_size];omega
 ·exact Nat.zero_le _
theorem recT_size (x:Rec):(recT x).size<=8010:=putT_size _
theorem own_oneK {W:World} {base size n:Nat} {e:TypeId} {v:Value} {xs:List Value} (h:W.ownsRow base e size v n xs):∃ a cap,v=.slice a n cap:=by
 obtain⟨_,h⟩:=h
 rcases h with⟨h,h0⟩|⟨g,cap,cur,hv,_⟩
 ·exact⟨none,0,by rw[h,h0]⟩
 ·exact⟨_,cap,hv⟩
theorem own_three (W:World) (base:Nat) (a b c:ByteArray) (g:Nat) (hg:W.heap[g]? = some (.cells #[.string a,.string b,.string c] 9 (0,0))) (hb:base<=g):OwnS W base (.slice (some ⟨g,0,none⟩) 3 3) [a,b,c] :=
 ⟨rfl,.inr ⟨g,3,_,rfl,hb,hg,Nat.le_refl _,by unfold maxLen;omega,rfl,rfl⟩⟩
theorem text_impl (x:MR) (w:World) (hi1:-9223372036854775808<=x.1.1) (hi2:x.1.1<=9223372036854775807) (ht:x.1.2.1.size<=8000) (hp20:x.1.2.2.length<=20) (hq:∀ q∈x.1.2.2,q.size<=8000) (hs:∃ a cap,x.2=.slice a x.1.2.2.length cap/\x.1.2.2.length<=cap/\Strs w w.heap.size a x.1.2.2) :
  Calls Tryz.prog 205 #[.agg #[.int .i64 x.1.1,.string x.1.2.1,x.2]] w fun e w'=>e=.returned (.string (recT x.1))/\Below w.heap.size w w':=by
 obtain⟨i0,hif,hz0',hz1,hz2⟩:=info_parts St.Tryz.infoS9
 obtain⟨⟨i,t,p⟩,v⟩:=x
 obtain⟨a,cap,hv,hc,hst⟩:=hs
 dsimp only at hi1 hi2 ht hp20 hq hv hc hst ⊢
 subst hv
 obtain⟨n,hn⟩:∃ n,n=p.length:=⟨_,rfl⟩
 have H1:=hideK (fun W=>Nu.put_impl i W hi1 hi2)
 have H2:=hideK (fun W=>Nu.text_impl t W (by unfold maxLen;omega))
 have H3:=hideK (fun W=>Nu.put_impl (n:Int) W (by omega) (by omega))
 have HQ:=hideK (fun j (h:j<p.length) W=>Nu.text_impl p[j] W (by have:=hq p[j] (List.getElem_mem h);unfold maxLen;omega))
 have HJ:=hideK (fun aa cp W hW=>join_any (partsR (i,t,p) n) aa cp (3+n) W hW (by rw[partsR_len _ _ (by rw[hn];exact Nat.le_refl _)]) (by omega) (by have:=partsR_cat (i,t,p) n (by rw[hn];exact Nat.le_refl _);omega))
 have HSE:=hideK (fun W=>Se.seal_impl (innerT (i,t,p)) W (by have:=innerT_size (i,t,p) hp20;unfold maxLen;omega))
 have HTX:=hideK (fun W=>Nu.text_impl (Se.sealV (innerT (i,t,p))) W (by have:=sealV_size (innerT (i,t,p));unfold maxLen;omega))
 have HRT:Hid (recT (i,t,p)=putT (Se.sealV (innerT (i,t,p)))):=rfl
 have HIN:Hid (innerT (i,t,p)=⟨(cat (partsR (i,t,p) n)).toArray⟩):=by unfold Hid innerT;rw[hn]
 rw[<-HIN.out]at HJ
 rw[HRT.out]
 have HP0:Hid (partsR (i,t,p) 0=[putS i,putT t,putS (n:Int)]):=by unfold Hid partsR;rw[hn];simp
 have HPN:=hideK (fun j (h:j<p.length)=>partsR_next (i,t,p) j h)
 have HPL:=hideK (fun j (h:j<=p.length)=>partsR_len (i,t,p) j h)
 have HST:=hideK hst
 have HN:=hideK hn
 rw[<-hn]at hp20 hc ⊢
 generalize innerT (i,t,p)=I at HJ HSE HTX ⊢
 generalize Se.sealV I=J at HSE HTX ⊢
 generalize putT J=R at HTX ⊢
 generalize putS i=A at H1 HP0
 generalize putT t=B at H2 HP0
 generalize putS (n:Int)=C at H3 HP0
 clear hst hq hn HRT HIN ht hi1 hi2
 have C0:=hideK ((Cx.nil w).new (.cells #[.int .i64 i,.string t,.slice a n cap] 129))
 go_enter Tryz.func205,Tryz.ntmps205
 go_upto_region 1 with fail
 have W0B:Hid (Below w.heap.size w (w.alloc (.cells #[.int .i64 i,.string t,.slice a n cap] 129))):=(Below.refl _ _).alloc (Nat.le_refl _) _
 have W0C:Hid (∀ pp:Addr,pp.block<w.heap.size->(w.alloc (.cells #[.int .i64 i,.string t,.slice a n cap] 129)).cell? pp=w.cell? pp):=fun pp h=>W0B.out.cell h
 have W0L:Hid (w.heap.size<=(w.alloc (.cells #[.int .i64 i,.string t,.slice a n cap] 129)).heap.size):=W0B.out.size
 generalize w.alloc _=w0 at C0 W0B W0C W0L ⊢
 generalize hgx:w.heap.size=gx at C0 ⊢
 have HGX:=hideK hgx
 clear hgx
 have CX:Hid (∀ W,Below w0.heap.size w0 W->W.cell? ⟨gx,0,none⟩=some (.int .i64 i)/\W.cell? ⟨gx,1,none⟩=some (.string t)/\W.cell? ⟨gx,2,none⟩=some (.slice a n cap)):=fun W h=>cells3 (blkL (C0.out.get 0 rfl) h)
 go_cut [3] from 6 to 16 (fun s3 wx=>∃ g:Nat,s3=.slice (some ⟨g,0,none⟩) 3 3/\wx.heap[g]? = some (.cells #[.string A,.string B,.string C] 9 (0,0))/\w0.heap.size<=g/\Below w0.heap.size w0 wx)
 case first =>
  have hS0:=CX.out _ (lm_drew (Below.refl w0.heap.size w0))
  go_region_held3 (fun W=>W.cell? ⟨gx,0,none⟩=some (.int .i64 i)/\W.cell? ⟨gx,1,none⟩=some (.string t)/\W.cell? ⟨gx,2,none⟩=some (.slice a n cap))
   (first|assumption|exact CX.out _ (by repeat (first|exact L1.out|exact L2.out|exact L3.out|exact Below.refl _ _|refine lm_alloc ?_ _|refine lm_drew ?_)))
   (first
    |(go_at_call 226;(with_reducible refine(H1.out _).mono ?_);rintro e w1 ⟨rfl,hb⟩;have L1:=hideK (lowL (w0:=w0) (by repeat (first|exact L2.out|exact L3.out|exact Below.refl _ _|refine lm_alloc ?_ _|refine lm_drew ?_)) hb);clear hb)
    |(go_at_call 227;(with_reducible refine(H2.out _).mono ?_);rintro e w2 ⟨rfl,hb⟩;have L2:=hideK (lowL (w0:=w0) (by repeat (first|exact L1.out|exact L3.out|exact Below.refl _ _|refine lm_alloc ?_ _|refine lm_drew ?_)) hb);clear hb)
    |(go_at_call 226;(with_reducible refine(H3.out _).mono ?_);rintro e w3 ⟨rfl,hb⟩;have L3:=hideK (lowL (w0:=w0) (by repeat (first|exact L1.out|exact L2.out|exact Below.refl _ _|refine lm_alloc ?_ _|refine lm_drew ?_)) hb);clear hb))
  all_goals (try go_wp2_with fail)
  all_goals (go_meet;first|exact⟨_,rfl,heap_alloc_new _ _,L3.out.size,lm_alloc L3.out _⟩|exact⟨_,rfl,heap_alloc_new _ _,L2.out.size,lm_alloc L2.out _⟩|exact⟨_,rfl,heap_alloc_new _ _,L1.out.size,lm_alloc L1.out _⟩)
 case rest =>
  obtain⟨g,rfl,hgb,hgl,hbx⟩:=hcut
  have O1:=hideK (own_three wc w0.heap.size A B C g hgb hgl)
  rw[<-HP0.out]at O1
  have LC:=hideK hbx
  have C1:=hideK (C0.out.call hbx)
  clear hgb hbx H1 H2 H3 C0 CX
  obtain⟨x0,x1,x2⟩:=cells3 (C1.out.get 0 rfl)
  have hz:=C1.out.low.size
  have hz0:=LC.out.size
  go_wp2_with fail
  go_loopw [20,3,5] (fun jv tv _ wr=>∃ (j:Nat) (aa:Option Addr) (cc:Nat),jv=.int .i64 j/\tv=.slice aa (3+j:Nat) cc/\j<=n/\OwnS wr w0.heap.size (.slice aa (3+j) cc) (partsR (i,t,p) j)/\Below w0.heap.size w0 wr) (fun jv _ _ _=>n-(intOf jv).toNat)
  case atStart=>exact⟨0,_,_,rfl,rfl,Nat.zero_le _,O1.out,LC.out⟩
  case round =>
   obtain⟨j,aa,cc,rfl,rfl,hj,ho,hbw⟩:=hrel
   have O:=hideK ho
   have BW:=hideK hbw
   have hzr:=hbw.size
   clear ho hbw O1 LC
   by_cases hlt:j<n
   ·have hlt':(j:Int)<(n:Int):=by omega
    have hjl:j<p.length:=by rw[<-HN.out];exact hlt
    have HTJ:=hideK (fun W=>HQ.out j hjl W)
    have HNX:=hideK (HPN.out j hjl)
    have HLJ:=hideK (HPL.out j (by omega))
    have hbx:=C1.out.low
    have hcx:=C1.out.get 0 rfl
    obtain⟨bb,off,hab,hbl,hcl⟩:=HST.out.some (by omega)
    subst hab
    have cj:wr.cell? ⟨bb,off+j,none⟩=some (.string p[j]):=by
     have h1:=(BW.out.cell (p:=⟨bb,off+j,none⟩) (show bb<w0.heap.size by have:=HGX.out;have:=W0L.out;omega))
     rw[h1]
     have h2:=hcl j hjl
     rw[<-h2]
     exact W0C.out ⟨bb,off+j,none⟩ hbl
    generalize p[j]=q at HTJ HNX cj
    generalize putT q=Q at HTJ HNX
    clear hcl hbx hcx hjl
    go_wp2_with fail
    refine(HTJ.out _).mono ?_
    rintro e w3 ⟨rfl,hb⟩
    have O3:=hideK (O.out.below hb)
    have B3:=hideK (BW.out.trans (hb.mono hzr))
    have hz3:=B3.out.size
    clear hb O cj
    have OW3:Hid (w3.ownsRow w0.heap.size 9 1 (.slice aa (3+j) cc) (3+j) ((partsR (i,t,p) j).map Value.string)):=by
     have:=O3.out
     unfold OwnS at this
     rw[HLJ.out]at this
     exact this
    go_wp2_with (at_builtin;refine wpList_append_own _ rfl (.tmp 24) (.tmp 27) 46 rfl w0.heap.size 9 i0 (.string ⟨#[]⟩) 1 16 Tryz.underlying46 hif hz0' hz1 hz2 rfl (by decide) _ _ _ rfl (World.ownsRow.alloc OW3.out _) ⟨w3.heap.size,0,none⟩ 1 1 [.string Q] rfl rfl (one_newS w3 _ _) (one_cellS _) (by unfold maxLen;omega) (by omega) (by simp;omega) ?_)
    intro v' w4 hown hgrow _
    obtain⟨aa',cc',hv'⟩:=own_oneK hown
    subst hv'
    have O4:Hid (OwnS w4 w0.heap.size (.slice aa' (3+(j+1)) cc') (partsR (i,t,p) (j+1))):=by
     rw[HNX.out]
     exact OwnS.snoc (by rw[HLJ.out];exact hown)
    have B4:=hideK (app_one B3.out hz3 (Nat.le_refl _) OW3.out hgrow)
    clear hown hgrow
    go_wp2_with fail
    go_roundw
    case rel=>exact⟨j+1,aa',cc',by go_num,by rw[Nat.add_assoc],by omega,O4.out,B4.out⟩
    case measure=>simp[intOf];omega
   ·obtain rfl:j=n:=by omega
    have hltD:decide ((j:Int)<(j:Int))=false:=by simp
    obtain⟨a1,c1,hv1,_,hst1⟩:=O.out.strs
    have hv2:aa=a1/\cc=c1:=by
     simp at hv1
     exact⟨hv1.1,hv1.2.2⟩
    obtain⟨rfl,rfl⟩:=hv2
    have HJ1:=hideK (HJ.out aa cc wr hst1)
    clear hst1 hv1
    go_wp2_with fail
    refine HJ1.out.mono ?_
    rintro e w3 ⟨rfl,hb⟩
    have B3:=hideK (BW.out.trans (hb.mono hzr))
    clear hb HJ1 O
    go_wp2_with fail
    refine(HSE.out _).mono ?_
    rintro e w4 ⟨rfl,hb⟩
    have B4:=hideK (lowL B3.out hb)
    clear hb
    go_wp2_with fail
    refine(HTX.out _).mono ?_
    rintro e w5 ⟨rfl,hb⟩
    have B5:=hideK (lowL B4.out hb)
    clear hb
    go_wp2_with fail
    go_ret
    exact⟨rfl,lowL W0B.out B5.out⟩
end Go.Proofs.YtpddanmnlkcdpaaGreatDoor.Kp

