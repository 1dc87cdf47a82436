/- Texts put together: SealWalks, UnsealWalks, KpPlain, KpPath. -/
import Derived.Test.YtikiihjabbmkcaaGreatDoorHz30
import Derived.Test.YtikiihjabbmkcaaGreatDoorHz26
import Derived.Test.YtikiihjabbmkcaaGreatDoorHz12
import Derived.Deep.RegionWith
import Derived.Test.YtikiihjabbmkcaaGreatDoorHz29
import Derived.Test.YtikiihjabbmkcaaGreatDoorHz20
import Derived.Test.YtikiihjabbmkcaaGreatDoorHz15
set_option maxRecDepth 100000
set_option maxHeartbeats 8000000
namespace Go.Proofs.YtikiihjabbmkcaaGreatDoor.Se
open Go.RowKit
open Nu (bv arr_string ret_strJ hideJ)
def crcOf (s:ByteArray):Nat:=Cr.fin (Cr.crcL (Cr.fin 0) s.data.toList)
def fourL (n:Nat):List UInt8:=[UInt8.ofNat (n%256),UInt8.ofNat (n/256%256),UInt8.ofNat (n/65536%256),UInt8.ofNat (n/16777216)]
def fourS (n:Nat):ByteArray:=⟨(fourL n).toArray⟩
def sealV (t:ByteArray):ByteArray:=if t.size<=7996 then t++fourS (crcOf t) else ⟨#[]⟩
theorem crcOf_lt (s:ByteArray):crcOf s<4294967296:=Cr.fin_lt (Cr.crcL_lt _ _ (Cr.fin_lt (by decide)))
theorem fourS_size (n:Nat):(fourS n).size=4:=rfl
theorem moreV_crc (s:ByteArray) (h:s.size<=8000):Cr.moreV 0 s=(crcOf s:Nat):=Cr.moreV_yes 0 s h (by decide)
theorem bv_of (q:Nat) (x:Int) (hq:(q:Int)=x) (h:q<256):bv (UInt8.ofNat q)=.int .u8 x:=by
 unfold bv
 rw[UInt8.toNat_ofNat',Nat.mod_eq_of_lt (by omega),hq]
theorem four_cells (n:Nat) (h:n<4294967296) :
  (#[.int .u8 ((n:Int)%256),.int .u8 ((n:Int)/256%256),.int .u8 ((n:Int)/65536%256),.int .u8 ((n:Int)/16777216)]:Array Value).toList=(fourL n).map bv:=by
 simp only[fourL,List.map_cons,List.map_nil]
 rw[bv_of (n%256) ((n:Int)%256) (by omega) (by omega),bv_of (n/256%256) ((n:Int)/256%256) (by omega) (by omega),
  bv_of (n/65536%256) ((n:Int)/65536%256) (by omega) (by omega),bv_of (n/16777216) ((n:Int)/16777216) (by omega) (by omega)]
theorem four_conv {P:Program} {src dst e:TypeId} (t:TypeId) (u:World) (n:Nat) (h:n<4294967296) (hs:P.underlying src=some (.slice e)) (he:P.underlying e=some (.int .u8)) (hd:P.underlying dst=some .string) :
  (convert src dst (.slice (some ⟨u.heap.size,0,none⟩) 4 4)).run P (u.alloc (.cells #[.int .u8 ((n:Int)%256),.int .u8 ((n:Int)/256%256),.int .u8 ((n:Int)/65536%256),.int .u8 ((n:Int)/16777216)] t)) =
   .ok (.string (fourS n)) (u.alloc (.cells #[.int .u8 ((n:Int)%256),.int .u8 ((n:Int)/256%256),.int .u8 ((n:Int)/65536%256),.int .u8 ((n:Int)/16777216)] t)) :=
 arr_string (P:=P) (fourL n) 4 (heap_alloc_new u _) (by rw[four_cells n h];rfl) hs he hd
theorem four_any (n:Nat) (w:World) (hn:n<4294967296) :
  Calls Tryz.prog 148 #[.int .i64 n] w fun e w'=>e=.returned (.string (fourS n))/\Below w.heap.size w w':=by
 have hcv:=four_conv (P:=Tryz.prog) 5 w n hn Tryz.underlying168 Tryz.underlying5 Tryz.underlying9
 go_enter Tryz.func148,Tryz.ntmps148
 go_wp2
 go_ret
 exact⟨rfl,(Below.refl _ _).alloc (Nat.le_refl _) _⟩
theorem sum_any (s:ByteArray) (w:World) (hs:s.size<=8000) :
  Calls Tryz.prog 190 #[.string s] w fun e w'=>e=.returned (.string (fourS (crcOf s)))/\Below w.heap.size w w':=by
 have HV:=hideJ (moreV_crc s hs)
 have hn:=crcOf_lt s
 generalize crcOf s=n at HV hn ⊢
 have hcv:=four_conv (P:=Tryz.prog) 266 w n hn Tryz.underlying168 Tryz.underlying5 Tryz.underlying9
 go_enter Tryz.func190,Tryz.ntmps190
 go_wp2_with fail
 refine(Cr.crc_impl0 s _ (by unfold maxLen;omega)).mono ?_
 rw[HV.out]
 rintro e w' ⟨rfl,hw⟩
 subst w'
 go_wp2
 refine wp_loop_rounds 5 ?_
 rw[rounds_succ];go_wp2
 rw[rounds_succ];go_wp2
 rw[rounds_succ];go_wp2
 rw[rounds_succ];go_wp2
 rw[rounds_succ];go_wp2
 go_ret
 exact⟨rfl,(Below.refl _ _).alloc (Nat.le_refl _) _⟩
theorem seal_impl (t:ByteArray) (w:World) (ht:t.size<=maxLen) :
  Calls Tryz.prog 156 #[.string t] w fun e w'=>e=.returned (.string (sealV t))/\Below w.heap.size w w':=by
 unfold maxLen at ht
 by_cases h:7996<t.size
 ·have HP:=hideJ (show sealV t=⟨#[]⟩ by unfold sealV;rw[if_neg (by omega)])
  go_enter Tryz.func156,Tryz.ntmps156
  go_wp2
  go_ret
  exact⟨ret_strJ HP.out.symm,Below.refl _ _⟩
 ·have HP:=hideJ (show sealV t=t++fourS (crcOf t) by unfold sealV;rw[if_pos (by omega)])
  have HF:=hideJ (fourS_size (crcOf t))
  go_enter Tryz.func156,Tryz.ntmps156
  go_wp2_with fail
  refine(sum_any t _ (by omega)).mono ?_
  rintro e w1 ⟨rfl,hb1⟩
  go_wp2_with fail
  refine(Nu.join_any _ _ _ (by rw[HF.out];omega)).mono ?_
  rintro e w2 ⟨rfl,hb2⟩
  go_wp2
  go_ret
  exact⟨ret_strJ HP.out.symm,hb1.trans (hb2.mono hb1.size)⟩
end Go.Proofs.YtikiihjabbmkcaaGreatDoor.Se


namespace Go.Proofs.YtikiihjabbmkcaaGreatDoor.Se
open Go.RowKit
open Nu (bv arr_string ret_strJ hideJ)
def outV (t:ByteArray) (at_ code:Int):Value:=.agg #[.string t,.int .i64 at_,.int .i64 code]
def unsealV (s:ByteArray):Value :=
 if 8000<s.size then outV ⟨#[]⟩ 0 2 else if s.size<4 then outV ⟨#[]⟩ 0 4
 else if sealV (s.extract 0 (s.size-4))=s then outV (s.extract 0 (s.size-4)) 0 0 else outV ⟨#[]⟩ 0 5
theorem bcell {W w1:World} (hb:Below W.heap.size W w1):(∀ b o,b<W.heap.size->w1.cell? ⟨b,o,none⟩=W.cell? ⟨b,o,none⟩)/\(∀ b o,b<W.heap.size->w1.frozen? ⟨b,o,none⟩=W.frozen? ⟨b,o,none⟩) :=
 ⟨fun b o h=>hb.cell (p:=⟨b,o,none⟩) h,fun b o h=>hb.frozen (p:=⟨b,o,none⟩) h⟩
theorem below3 {w wa wb:World} {o:Obj} (h1:Below (w.alloc o).heap.size (w.alloc o) wa) (h2:Below (w.alloc o).heap.size wa wb):Below w.heap.size w wb :=
 ((Below.refl w.heap.size w).alloc (Nat.le_refl _) o).trans ((h1.trans h2).mono (by simp))
theorem below2d {w wa:World} {o:Obj} (h1:Below (w.alloc o).drew.heap.size (w.alloc o).drew wa):Below w.heap.size w wa :=
 ((Below.refl w.heap.size w).alloc (Nat.le_refl _) o).drew.trans (h1.mono (by simp))
theorem list_eq_iff (a b:ByteArray):(a.toList==b.toList)=decide (a=b):=by
 by_cases h:a=b
 ·rw[h];simp
 ·rw[decide_eq_false h,beq_eq_false_iff_ne]
  intro e
  apply h
  rw[ByteArray.toList_eq,ByteArray.toList_eq]at e
  have e2:a.data=b.data:=by rw[<-Array.toArray_toList (xs:=a.data),e,Array.toArray_toList]
  cases a;cases b;simpa using e2
theorem unsealV_yes (s t:ByteArray) (h1:¬8000<s.size) (h2:¬s.size<4) (ht:t=s.extract 0 (s.size-4)) (h:sealV t=s):unsealV s=outV t 0 0:=by
 unfold unsealV
 rw[if_neg h1,if_neg h2,<-ht,if_pos h]
theorem unsealV_no (s t:ByteArray) (h1:¬8000<s.size) (h2:¬s.size<4) (ht:t=s.extract 0 (s.size-4)) (h:¬sealV t=s):unsealV s=outV ⟨#[]⟩ 0 5:=by
 unfold unsealV
 rw[if_neg h1,if_neg h2,<-ht,if_neg h]
theorem unseal_impl (s:ByteArray) (w:World) (hs:s.size<=maxLen) :
  Calls Tryz.prog 126 #[.string s] w fun e w'=>e=.returned (unsealV s)/\Below w.heap.size w w':=by
 unfold maxLen at hs
 by_cases h1:8000<s.size
 ·have HV:=hideJ (show unsealV s=outV ⟨#[]⟩ 0 2 by unfold unsealV;rw[if_pos h1])
  go_enter Tryz.func126,Tryz.ntmps126
  go_wp2
  refine bodyPost_ret (v:=outV ⟨#[]⟩ 0 2) (by simp[results,outV,Tryz.results126,go_sem]) rfl ⟨by rw[HV.out],?_⟩
  exact(Below.refl _ _).alloc (Nat.le_refl _) _
 ·by_cases h2:s.size<4
  ·have HV:=hideJ (show unsealV s=outV ⟨#[]⟩ 0 4 by unfold unsealV;rw[if_neg h1,if_pos h2])
   go_enter Tryz.func126,Tryz.ntmps126
   go_wp2
   refine bodyPost_ret (v:=outV ⟨#[]⟩ 0 4) (by simp[results,outV,Tryz.results126,go_sem]) rfl ⟨by rw[HV.out],?_⟩
   exact(Below.refl _ _).alloc (Nat.le_refl _) _
  ·obtain⟨t,ht⟩:∃ t,t=s.extract 0 (s.size-4):=⟨_,rfl⟩
   have hts:t.size<=7996:=by rw[ht];simp;omega
   have HT:=hideJ ht
   by_cases hq:sealV t=s
   ·have HV:=hideJ (unsealV_yes s t h1 h2 ht hq)
    have hB:((sealV t).toList==s.toList)=true:=by rw[list_eq_iff];exact decide_eq_true hq
    clear ht hq
    go_enter Tryz.func126,Tryz.ntmps126
    go_wp2_with fail
    rw[show ((s.size:Int)-4)=((s.size-4:Nat):Int) from by omega]
    refine(Nu.cut_any s 0 (s.size-4) _ (by omega) (by omega) (by omega)).mono ?_
    rw[<-HT.out]
    rintro e wa ⟨rfl,hb1⟩
    obtain⟨hc1,hf1⟩:=bcell hb1
    have hz1:w.heap.size+1<=wa.heap.size:=by have:=hb1.size;simpa using this
    go_wp2_with fail
    refine(seal_impl t _ (by unfold maxLen;omega)).mono ?_
    rintro e wb ⟨rfl,hb2⟩
    obtain⟨hc2,hf2⟩:=bcell hb2
    have hz2:wa.heap.size<=wb.heap.size:=hb2.size
    have hlt:w.heap.size<wa.heap.size:=by omega
    go_wp2
    refine bodyPost_ret (v:=outV t 0 0) (by simp[results,outV,Tryz.results126,go_sem,hc2,hc1,hlt]) rfl ⟨by rw[HV.out],?_⟩
    exact((below3 hb1 (hb2.mono (by simpa using hz1))).setCell (Nat.le_refl _) _ |>.setCell (Nat.le_refl _) _).setCell (Nat.le_refl _) _
   ·have HV:=hideJ (unsealV_no s t h1 h2 ht hq)
    have hB:((sealV t).toList==s.toList)=false:=by rw[list_eq_iff];exact decide_eq_false hq
    clear ht hq
    go_enter Tryz.func126,Tryz.ntmps126
    go_wp2_with fail
    rw[show ((s.size:Int)-4)=((s.size-4:Nat):Int) from by omega]
    refine(Nu.cut_any s 0 (s.size-4) _ (by omega) (by omega) (by omega)).mono ?_
    rw[<-HT.out]
    rintro e wa ⟨rfl,hb1⟩
    obtain⟨hc1,hf1⟩:=bcell hb1
    have hz1:w.heap.size+1<=wa.heap.size:=by have:=hb1.size;simpa using this
    go_wp2_with fail
    refine(seal_impl t _ (by unfold maxLen;omega)).mono ?_
    rintro e wb ⟨rfl,hb2⟩
    obtain⟨hc2,hf2⟩:=bcell hb2
    have hz2:wa.heap.size<=wb.heap.size:=hb2.size
    have hlt:w.heap.size<wa.heap.size:=by omega
    go_wp2
    refine bodyPost_ret (v:=outV ⟨#[]⟩ 0 5) (by simp[results,outV,Tryz.results126,go_sem,hc2,hc1,hlt]) rfl ⟨by rw[HV.out],?_⟩
    exact((below3 hb1 (hb2.mono (by simpa using hz1))).setCell (Nat.le_refl _) _ |>.setCell (Nat.le_refl _) _).setCell (Nat.le_refl _) _
end Go.Proofs.YtikiihjabbmkcaaGreatDoor.Se


/- What is kept: records and logs in plain words. -/
namespace Go.Proofs.YtikiihjabbmkcaaGreatDoor.Kp
open Go.RowKit
open Gn (rd rt run numR run_place rd_place)
theorem run_more (s:ByteArray):∀ f k p u,(run s f k p u).2.2=0->p<(run s f k p u).2.1:=by
 intro f
 induction f with
 |zero=>intro k p u h;exact absurd h (by rw[run];decide)
 |succ f ih =>
  intro k p u
  rw[run]
  split
  ·intro h;exact absurd h (by decide)
  ·split
   ·intro h;exact absurd h (by decide)
   ·split
    ·split
     ·intro h;exact absurd h (by decide)
     ·intro _;exact Nat.lt_succ_self _
    ·intro h
     have:=ih _ _ _ h
     omega
theorem rd_more (s:ByteArray) (a:Int) (h:(rd s a).2.2=0):a.toNat<(rd s a).2.1/\(rd s a).2.1<=s.size/\s.size<=8000:=by
 have h1:=rd_place s a h
 refine⟨?_,h1.2,h1.1⟩
 unfold rd at h ⊢
 split at h
 ·exact absurd h (by decide)
 ·split at h
  ·exact absurd h (by decide)
  ·rename_i h1 h2
   rw[if_neg h1,if_neg h2]
   exact run_more s 10 0 a.toNat 0 h
theorem rt_more (s:ByteArray) (a:Int) (h:(rt s a).2.2=0):a.toNat<(rt s a).2.1/\(rt s a).2.1<=s.size/\s.size<=8000/\(rt s a).1.size<=8000:=by
 unfold rt at h ⊢
 split at h
 ·rename_i h1
  exact absurd h h1
 ·rename_i h1
  have h1':(rd s a).2.2=0:=Decidable.not_not.1 h1
  have hm:=rd_more s a h1'
  split at h
  ·exact absurd h (by decide)
  ·rename_i h2
   split at h
   ·exact absurd h (by decide)
   ·rename_i h3
    rw[if_neg h1,if_neg h2,if_neg h3]
    refine⟨?_,?_,hm.2.2,?_⟩
    ·show a.toNat<(rd s a).2.1+(rd s a).1.toNat
     omega
    ·show (rd s a).2.1+(rd s a).1.toNat<=s.size
     omega
    ·show (s.extract _ _).size<=8000
     rw[ByteArray.size_extract]
     omega
abbrev Rec:=Int × ByteArray × List ByteArray
def pathR (s:ByteArray):Nat->Nat->List ByteArray->Option (List ByteArray × Nat)
 |0,e,l=>some (l,e)
 |n+1,e,l=>if (rt s e).2.2=0 then pathR s n (rt s e).2.1 (l++[(rt s e).1]) else none
theorem pathR_yes {s:ByteArray} {n e:Nat} {l:List ByteArray} (h:(rt s e).2.2=0):pathR s (n+1) e l=pathR s n (rt s e).2.1 (l++[(rt s e).1]):=by
 rw[pathR,if_pos h]
theorem pathR_no {s:ByteArray} {n e:Nat} {l:List ByteArray} (h:¬(rt s e).2.2=0):pathR s (n+1) e l=none:=by
 rw[pathR,if_neg h]
theorem pathR_facts {s:ByteArray}:∀ {n e:Nat} {l:List ByteArray} {q:List ByteArray × Nat},pathR s n e l=some q->q.1.length=l.length+n/\e<=q.2
 |0,e,l,q,h=>by
  rw[pathR]at h
  cases h
  exact⟨rfl,Nat.le_refl _⟩
 |n+1,e,l,q,h=>by
  by_cases hc:(rt s e).2.2=0
  ·rw[pathR_yes hc]at h
   have h1:=pathR_facts h
   have h2:=(rt_more s e hc).1
   rw[List.length_append]at h1
   simp at h1 h2
   omega
  ·rw[pathR_no hc]at h
   cases h
def innerOk (s:ByteArray):Prop:=(rd s 0).2.2=0/\(rt s (rd s 0).2.1).2.2=0/\(rd s (rt s (rd s 0).2.1).2.1).2.2=0/\0<=(rd s (rt s (rd s 0).2.1).2.1).1/\(rd s (rt s (rd s 0).2.1).2.1).1<=20
instance (s:ByteArray):Decidable (innerOk s):=by unfold innerOk;infer_instance
def innerR (s:ByteArray):Option Rec :=
 if innerOk s then
  match pathR s (rd s (rt s (rd s 0).2.1).2.1).1.toNat (rd s (rt s (rd s 0).2.1).2.1).2.1 [] with
  |some q=>if q.2=s.size then some ((rd s 0).1,(rt s (rd s 0).2.1).1,q.1) else none
  |none=>none
 else none
def usT (s:ByteArray):ByteArray:=if 8000<s.size then ⟨#[]⟩ else if s.size<4 then ⟨#[]⟩ else if Se.sealV (s.extract 0 (s.size-4))=s then s.extract 0 (s.size-4) else ⟨#[]⟩
def usC (s:ByteArray):Int:=if 8000<s.size then 2 else if s.size<4 then 4 else if Se.sealV (s.extract 0 (s.size-4))=s then 0 else 5
theorem unseal_all (s:ByteArray):Se.unsealV s=.agg #[.string (usT s),.int .i64 0,.int .i64 (usC s)]:=by
 unfold Se.unsealV usT usC
 split
 ·rfl
 ·split
  ·rfl
  ·split
   ·rfl
   ·rfl
def recR (s:ByteArray) (e:Nat):Option (Rec × Nat) :=
 if (rt s e).2.2=0/\usC (rt s e).1=0 then (innerR (usT (rt s e).1)).map (fun r=>(r,(rt s e).2.1)) else none
theorem innerR_facts {s:ByteArray} {r:Rec} (h:innerR s=some r):r.2.2.length<=20/\r.2.1.size<=8000/\s.size<=8000:=by
 unfold innerR at h
 split at h
 ·rename_i hok
  obtain⟨h1,h2,h3,h4,h5⟩:=hok
  split at h
  ·rename_i q hq
   have hf:=pathR_facts hq
   split at h
   ·cases h
    have:=rt_more _ _ h2
    refine⟨?_,this.2.2.2,this.2.2.1⟩
    show q.1.length<=20
    rw[hf.1]
    simp
    omega
   ·cases h
  ·cases h
 ·cases h
theorem recR_facts {s:ByteArray} {e:Nat} {x:Rec × Nat} (h:recR s e=some x):e<x.2/\x.2<=s.size/\s.size<=8000/\x.1.2.2.length<=20/\x.1.2.1.size<=8000:=by
 unfold recR at h
 split at h
 ·rename_i hc
  have h1:=rt_more s e hc.1
  obtain⟨r,hr,rfl⟩:=Option.map_eq_some_iff.1 h
  have h2:=innerR_facts hr
  exact⟨by simpa using h1.1,h1.2.1,h1.2.2.1,h2.1,h2.2.1⟩
 ·cases h
def hasR (out:List Rec) (i:Int):Bool:=out.any fun r=>r.1==i
def goR (fit:Rec->Bool) (s:ByteArray):Nat->List Rec->Nat->List Rec × Nat
 |0,out,e=>(out,e)
 |f+1,out,e=>if e<s.size then
   match recR s e with
   |some x=>if fit x.1=true/\hasR out x.1.1=false then goR fit s f (out++[x.1]) x.2 else (out,e)
   |none=>(out,e)
  else (out,e)
theorem goR_end {fit:Rec->Bool} {s:ByteArray} {f e:Nat} {out:List Rec} (h:s.size<=e):goR fit s f out e=(out,e):=by
 cases f with
 |zero=>rfl
 |succ f=>rw[goR,if_neg (by omega)]
theorem goR_none {fit:Rec->Bool} {s:ByteArray} {f e:Nat} {out:List Rec} (h:recR s e=none):goR fit s f out e=(out,e):=by
 cases f with
 |zero=>rfl
 |succ f =>
  rw[goR,h]
  split<;>rfl
theorem goR_bad {fit:Rec->Bool} {s:ByteArray} {f e:Nat} {out:List Rec} {x:Rec × Nat} (h:recR s e=some x) (hb:¬(fit x.1=true/\hasR out x.1.1=false)):goR fit s f out e=(out,e):=by
 cases f with
 |zero=>rfl
 |succ f =>
  rw[goR,h]
  split
  ·exact if_neg hb
  ·rfl
theorem goR_fuel {fit:Rec->Bool} {s:ByteArray}:∀ (f g e:Nat) (out:List Rec),s.size-e<=f->s.size-e<=g->goR fit s f out e=goR fit s g out e:=by
 intro f
 induction f with
 |zero=>intro g e out h1 h2;rw[goR_end (by omega),goR_end (by omega)]
 |succ f ih =>
  intro g e out h1 h2
  by_cases he:e<s.size
  ·cases g with
   |zero=>omega
   |succ g =>
    rw[goR,goR,if_pos he,if_pos he]
    cases hr:recR s e with
    |none=>rfl
    |some x =>
     have:=recR_facts hr
     show (if _ then _ else _)=(if _ then _ else _)
     split
     ·exact ih g x.2 _ (by omega) (by omega)
     ·rfl
  ·rw[goR_end (by omega),goR_end (by omega)]
theorem goR_step {fit:Rec->Bool} {s:ByteArray} {e:Nat} {out:List Rec} {x:Rec × Nat} (h:recR s e=some x) (h1:fit x.1=true) (h2:hasR out x.1.1=false):goR fit s (s.size-e) out e=goR fit s (s.size-x.2) (out++[x.1]) x.2:=by
 have hf:=recR_facts h
 obtain⟨k,hk⟩:∃ k,s.size-e=k+1:=⟨s.size-e-1,by omega⟩
 rw[hk,goR,if_pos (by omega),h]
 show (if _ then _ else _)=_
 rw[if_pos ⟨h1,h2⟩]
 exact goR_fuel _ _ _ _ (by omega) (Nat.le_refl _)
def allR (fit:Rec->Bool) (s:ByteArray):List Rec × Nat:=goR fit s (s.size-0) [] 0
theorem goR_le {fit:Rec->Bool} {s:ByteArray}:∀ (f e:Nat) (out:List Rec),e<=s.size->e<=(goR fit s f out e).2/\(goR fit s f out e).2<=s.size:=by
 intro f
 induction f with
 |zero=>intro e out h;exact⟨Nat.le_refl _,h⟩
 |succ f ih =>
  intro e out h
  by_cases he:e<s.size
  ·rw[goR,if_pos he]
   cases hr:recR s e with
   |none=>exact⟨Nat.le_refl _,h⟩
   |some x =>
    have hf:=recR_facts hr
    show e<=(if _ then _ else _:List Rec × Nat).2/\(if _ then _ else _:List Rec × Nat).2<=_
    split
    ·have:=ih x.2 (out++[x.1]) hf.2.1
     omega
    ·exact⟨Nat.le_refl _,h⟩
  ·rw[goR_end (by omega)]
   exact⟨Nat.le_refl _,h⟩
theorem goR_many {fit:Rec->Bool} {s:ByteArray}:∀ (f e:Nat) (out:List Rec),out.length<=e->(goR fit s f out e).1.length<=(goR fit s f out e).2:=by
 intro f
 induction f with
 |zero=>intro e out h;exact h
 |succ f ih =>
  intro e out h
  by_cases he:e<s.size
  ·rw[goR,if_pos he]
   cases hr:recR s e with
   |none=>exact h
   |some x =>
    have hf:=recR_facts hr
    show (if _ then _ else _:List Rec × Nat).1.length<=(if _ then _ else _:List Rec × Nat).2
    split
    ·exact ih x.2 (out++[x.1]) (by rw[List.length_append];simp;omega)
    ·exact h
  ·rw[goR_end (by omega)]
   exact h
theorem allR_many (fit:Rec->Bool) (s:ByteArray):(allR fit s).1.length<=(allR fit s).2:=goR_many _ _ _ (Nat.zero_le _)
theorem allR_le (fit:Rec->Bool) (s:ByteArray):(allR fit s).2<=s.size:=(goR_le _ _ _ (Nat.zero_le _)).2
end Go.Proofs.YtikiihjabbmkcaaGreatDoor.Kp


namespace Go.Proofs.YtikiihjabbmkcaaGreatDoor.Kp
open Go.RowKit
open Gn (rd rt tupV errV readText_any)
open St (OwnS one_newS one_cellS app_one)
theorem readPath_any (s:ByteArray) (e n:Nat) (w:World) (hs:s.size<=maxLen) (hn:n<=20) :
  Calls Tryz.prog 158 #[.string s,.int .i64 e,.int .i64 n] w fun r w' =>
   ((∃ q v,pathR s n e []=some q/\r=.returned (.tuple #[v,.int .i64 q.2,.nilIface])/\OwnS w' w.heap.size v q.1) ∨
   (pathR s n e []=none/\∃ c,r=.returned (.tuple #[.slice none 0 0,.int .i64 0,.iface 228 (.agg #[.int .i64 c])])))/\Below w.heap.size w w':=by
 obtain⟨i0,hif,hz0,hz1,hz2⟩:=info_parts St.Tryz.infoS9
 go_enter Tryz.func158,Tryz.ntmps158
 go_wp2_with fail
 go_loopw [14,1,9,10,11,12] (fun jv ev tv _ _ _ wr=>∃ (j e1:Nat) (l:List ByteArray),jv=.int .i64 j/\ev=.int .i64 e1/\j<=n/\l.length=j/\pathR s n e []=pathR s (n-j) e1 l/\OwnS wr w.heap.size tv l/\Below w.heap.size w wr) (fun jv _ _ _ _ _ _=>n-(intOf jv).toNat)
 case atStart=>exact⟨0,e,[],rfl,rfl,Nat.zero_le _,rfl,rfl,OwnS.nil _ _,Below.refl _ _⟩
 case round =>
  obtain⟨j,e1,l,rfl,rfl,hj,hl,hp,ho,hbw⟩:=hrel
  have O:=hideK ho
  have BW:=hideK hbw
  have HP:=hideK hp
  have HL:=hideK hl
  have hzr:=hbw.size
  clear ho hbw hp hl
  by_cases hlt:j<n
  ·have hlt':(j:Int)<(n:Int):=by omega
   have hnj:n-j=(n-(j+1))+1:=by omega
   have HNJ:=hideK hnj
   clear hnj
   have HRT:=hideK (fun W=>readText_any s e1 W hs)
   unfold tupV at HRT
   have HY:=hideK (fun h=>pathR_yes (s:=s) (n:=n-(j+1)) (e:=e1) (l:=l) h)
   have HN:=hideK (fun h=>pathR_no (s:=s) (n:=n-(j+1)) (e:=e1) (l:=l) h)
   generalize rt s e1=x at HRT HY HN
   obtain⟨tx,p,c⟩:=x
   dsimp only at HRT HY HN
   by_cases hc:c=0
   ·have HY1:=hideK (HY.out hc)
    simp only[errV,if_pos hc]at HRT
    clear HY HN hc
    go_wp2_with fail
    refine(HRT.out _).mono ?_
    rintro e w3 ⟨rfl,hb⟩
    have O3:=hideK (O.out.below hb)
    have B3:=hideK (BW.out.trans (hb.mono hzr))
    have hz3:=B3.out.size
    clear hb O HRT
    go_wp2_with (at_builtin;refine wpList_append_own _ rfl (.tmp 26) (.tmp 28) 55 rfl w.heap.size 9 i0 (.string ⟨#[]⟩) 1 16 Tryz.underlying55 hif hz0 hz1 hz2 rfl (by decide) _ _ _ rfl (World.ownsRow.alloc O3.out _) ⟨w3.heap.size,0,none⟩ 1 1 [.string tx] rfl rfl (one_newS w3 _ _) (one_cellS _) (by rw[HL.out];unfold maxLen;omega) (by rw[HL.out];omega) (by simp;omega) ?_)
    intro v' w4 hown hgrow _
    have O4:=hideK (OwnS.snoc hown)
    have B4:=hideK (app_one B3.out hz3 (Nat.le_refl _) O3.out hgrow)
    clear hown hgrow
    go_wp2_with fail
    go_roundw
    case rel=>exact⟨j+1,p,l++[tx],by go_num,rfl,by omega,by rw[List.length_append,HL.out];rfl,by rw[HP.out,HNJ.out,HY1.out],O4.out,B4.out⟩
    case measure=>simp[intOf];omega
   ·have HN1:=hideK (HN.out hc)
    simp only[errV,if_neg hc]at HRT
    clear HY HN hc
    go_wp2_with fail
    refine(HRT.out _).mono ?_
    rintro e w3 ⟨rfl,hb⟩
    have B3:=hideK (BW.out.trans (hb.mono hzr))
    clear hb O HRT
    go_wp2_with fail
    go_ret3
    exact⟨.inr ⟨by rw[HP.out,HNJ.out,HN1.out],c,rfl⟩,B3.out⟩
  ·obtain rfl:j=n:=by omega
   have HE:Hid (pathR s j e []=some (l,e1)):=by
    unfold Hid
    rw[HP.out,Nat.sub_self,pathR]
   go_wp2_with fail
   go_ret3
   exact⟨.inl ⟨(l,e1),_,HE.out,rfl,O.out⟩,BW.out⟩
end Go.Proofs.YtikiihjabbmkcaaGreatDoor.Kp

