/- Texts put together: ShaFill, KpArg, KpPlain, KpPath, PeNine, KpSync, KhPlain. -/
import Derived.Test.YtpddanmnlkcdpaaGreatDoorMz29
import Derived.Test.YtpddanmnlkcdpaaGreatDoorMz22
import Derived.Test.YtpddanmnlkcdpaaGreatDoorMz27
import Derived.Test.YtpddanmnlkcdpaaGreatDoorMz12
import Derived.Test.YtpddanmnlkcdpaaGreatDoorMz9
import Derived.Test.YtpddanmnlkcdpaaGreatDoorChecked
set_option maxRecDepth 100000
set_option maxHeartbeats 8000000
namespace Go.Proofs.YtpddanmnlkcdpaaGreatDoor.Sh
open Go.RowKit
open Nu (bv hideJ run_copy_string)
theorem fill_any (t:ByteArray) (w:World) (ht:t.size<=1048576) :
  Calls Tryz.prog 235 #[.string t] w fun e w'=>e=.returned (.slice (some ⟨w.heap.size,0,none⟩) (chunks t.size*64) (chunks t.size*64)) /\
   IsB w' w.heap.size 5 .u8 (chunks t.size*64) (fun j=>(pad t j:Nat))/\Below w.heap.size w w':=by
 obtain⟨i0,hi,hz0,hz1,hz2⟩:=info_parts Nu.Tryz.infoJ5
 obtain⟨ch,hch⟩:∃ c,c=chunks t.size:=⟨_,rfl⟩
 have hr:=chunks_room t.size
 have hti:=chunks_tight t.size
 have hc:((t.size:Int)+1+8+64-1)/64=(ch:Int):=by rw[hch];unfold chunks;omega
 have hcw:((ch:Int)*64).toNat=ch*64:=by omega
 rw[<-hch]at hr hti ⊢
 have HCH:=hideJ hch
 clear hch
 go_enter Tryz.func235,Tryz.ntmps235
 go_wp2_with (at_make;refine wpList_make_full _ rfl (.tmp 15) (.tmp 15) 168 rfl w.heap.size 5 i0 (.int .u8 0) 1 Tryz.underlying168 hi hz0 hz1 .i64 .i64 _ _ (ch*64) rfl rfl (by simp) (by simp) (by rw[hz2];omega) (by unfold maxLen;omega) (Nat.le_refl _) ?_;intro w1 hown1 hgrow1;have hrow:=made_row hown1;have hbel1:=(Below.refl w.heap.size w).grown hgrow1 (Nat.le_refl _) (by simp);obtain⟨w2,c1,hrow2,k1,k2,k3,k4,k5⟩:=run_copy_string (P:=Tryz.prog) w1 168 9 3 5 (some ⟨w.heap.size,0,none⟩) w.heap.size 0 (ch*64) (ch*64) t (rowF .u8 (ch*64) (fun _=>0)).toList 5 Tryz.underlying168 Nu.Tryz.sizeJ5 (by unfold IsB at hrow;simpa using hrow) (fun _=>rfl) (by omega) (by simp[rowF_size];omega);rw[splice_row _ _ _ (by omega)]at hrow2;have hrow3:IsB w2 w.heap.size 5 .u8 (ch*64) (fun j=>if j<t.size then (bt t j:Nat) else 0):=hrow2;have HB:=hideJ hrow3;have HL:=hideJ (Nu.copy_below hbel1 k1 k2 k3 k4 k5);have hce:=hrow3.cell (j:=t.size) (by omega);have hfz:=hrow3.frozen t.size;clear hown1 hgrow1 hrow hbel1 k1 k2 k3 k4 k5 hrow2 hrow3)
 go_loopw [28] (fun i wr=>∃ k:Nat,i=.int .i64 k/\k<=8/\IsB wr w.heap.size 5 .u8 (ch*64) (fun j=>(padK t k j:Nat))/\Below w.heap.size w wr) (fun i _=>8-(intOf i).toNat)
 case atStart =>
  refine⟨0,rfl,by omega,IsB.congr (HB.out.set t.size 128) (fun j hj=>pad_start t j (by rw[<-HCH.out];exact hj)),HL.out.setCell (Nat.le_refl _) _⟩
 case round =>
  obtain⟨k,rfl,hk,h1,hbel⟩:=hrel
  have G1:=hideJ h1
  by_cases hlt:k<8
  ·have e1:((ch:Int)*64-1-(k:Int)).toNat=ch*64-1-k:=by omega
   have ce:=h1.cell (j:=ch*64-1-k) (by omega)
   have cf:=h1.frozen (ch*64-1-k)
   have HV:Hid (((t.size:Int)*8/2 ^ (8*k))%256=((t.size*8/2 ^ (8*k)%256:Nat):Int)):=by
    unfold Hid
    simp
   clear h1
   go_wp2_with fail
   go_roundw
   case rel =>
    refine⟨k+1,by go_num,by omega,IsB.congr (G1.out.set (ch*64-1-k) _) (fun j hj=>?_),hbel.setCell (Nat.le_refl _) _⟩
    rw[HCH.out]at hj ⊢
    exact pad_next t k hlt _ HV.out j hj
   case measure=>simp[intOf];omega
  ·obtain rfl:k=8:=by omega
   clear h1
   go_wp2_with fail
   go_ret
   exact⟨rfl,G1.out,hbel⟩
end Go.Proofs.YtpddanmnlkcdpaaGreatDoor.Sh


namespace Go.Proofs.YtpddanmnlkcdpaaGreatDoor.Kp
open Go.RowKit
open Ls (lV sz_yes sz_no to_any eqL_same cells3)
def lkB (z b:Int) (r s:ByteArray) (y:Int):Obj:=.cells #[.int .i64 z,.int .i64 b,.string r,.string s,.int .i64 y] 25
theorem lk_cells {W:World} {g:Nat} {z b:Int} {r s:ByteArray} {y:Int} (h:W.heap[g]? = some (lkB z b r s y)):W.cell? ⟨g,0,none⟩=some (.int .i64 z)/\W.cell? ⟨g,1,none⟩=some (.int .i64 b)/\W.cell? ⟨g,2,none⟩=some (.string r)/\W.cell? ⟨g,3,none⟩=some (.string s)/\W.cell? ⟨g,4,none⟩=some (.int .i64 y) :=
 ⟨cell_of_row W g 0 _ _ _ h,cell_of_row W g 1 _ _ _ h,cell_of_row W g 2 _ _ _ h,cell_of_row W g 3 _ _ _ h,cell_of_row W g 4 _ _ _ h⟩
theorem szK_yes (z b:Int) (r s:ByteArray) (y:Int) (w:World) (h:r.size+s.size<=1048576) :
  Calls Tryz.prog 23 #[kV z b r s y,.int .i64 1048576] w fun e w'=>e=.returned (.int .i64 (1048576-(r.size:Int)-(s.size:Int)))/\Below w.heap.size w w':=by
 have HZ:=hideK (fun W=>sz_yes z b r W (by omega))
 have C0:=hideK ((Cx.nil w).new (lkB z b r s y))
 have hw1:IntKind.i64.wrap (1048576-(r.size:Int)-(s.size:Int))=1048576-(r.size:Int)-(s.size:Int):=by rw[IntKind.wrap_i64];omega
 have h1:¬(1048576-(r.size:Int))<0:=by omega
 have h2:decide ((1048576-(r.size:Int))<0)=false:=by simp;omega
 have h3:¬(1048576-(r.size:Int)-(s.size:Int))<0:=by omega
 have h4:decide ((1048576-(r.size:Int)-(s.size:Int))<0)=false:=by simp;omega
 unfold kV
 unfold lkB at C0
 unfold lV at HZ
 go_enter Tryz.func23,Tryz.ntmps23
 go_wp2_with fail
 refine(HZ.out _).mono ?_
 rintro e w1 ⟨rfl,hb⟩
 have C1:=hideK (C0.out.call hb)
 clear hb C0
 obtain⟨l0,l1,l2,l3,l4⟩:=lk_cells (C1.out.get 0 rfl)
 go_wp2_with fail
 go_ret
 exact⟨rfl,C1.out.low⟩
theorem szK_no (z b:Int) (r s:ByteArray) (y:Int) (w:World) (hr:r.size<=9223372036854775807) (hs:s.size<=9223372036854775807) (h:¬r.size+s.size<=1048576) :
  Calls Tryz.prog 23 #[kV z b r s y,.int .i64 1048576] w fun e w'=>e=.returned (.int .i64 (-1))/\Below w.heap.size w w':=by
 have C0:=hideK ((Cx.nil w).new (lkB z b r s y))
 unfold kV
 unfold lkB at C0
 by_cases h0:r.size<=1048576
 ·have HZ:=hideK (fun W=>sz_yes z b r W h0)
  have hw1:IntKind.i64.wrap (1048576-(r.size:Int)-(s.size:Int))=1048576-(r.size:Int)-(s.size:Int):=by rw[IntKind.wrap_i64];omega
  have h1:¬(1048576-(r.size:Int))<0:=by omega
  have h2:decide ((1048576-(r.size:Int))<0)=false:=by simp;omega
  have h3:(1048576-(r.size:Int)-(s.size:Int))<0:=by omega
  unfold lV at HZ
  go_enter Tryz.func23,Tryz.ntmps23
  go_wp2_with fail
  refine(HZ.out _).mono ?_
  rintro e w1 ⟨rfl,hb⟩
  have C1:=hideK (C0.out.call hb)
  clear hb C0
  obtain⟨l0,l1,l2,l3,l4⟩:=lk_cells (C1.out.get 0 rfl)
  go_wp2_with fail
  go_ret
  exact⟨rfl,C1.out.low⟩
 ·have HZ:=hideK (fun W=>sz_no z b r W hr (by omega))
  unfold lV at HZ
  go_enter Tryz.func23,Tryz.ntmps23
  go_wp2_with fail
  refine(HZ.out _).mono ?_
  rintro e w1 ⟨rfl,hb⟩
  have C1:=hideK (C0.out.call hb)
  clear hb C0
  go_wp2_with fail
  go_ret
  exact⟨rfl,C1.out.low⟩
theorem toK_any (z b:Int) (r s:ByteArray) (y:Int) (w:World) :
  Calls Tryz.prog 31 #[kV z b r s y] w fun e w'=>e=.returned (kV z b r s y)/\Below w.heap.size w w':=by
 have HT:=hideK (fun W=>to_any z b r W)
 have C0:=hideK ((((Cx.nil w).new (lkB z b r s y)).new kZ).new kZ)
 simp only[World.size_alloc]at C0
 unfold kV
 unfold lV at HT
 unfold lkB kZ at C0
 go_enter Tryz.func31,Tryz.ntmps31
 go_wp2_with fail
 generalize ((w.alloc _).alloc _).alloc _=W0 at C0 ⊢
 refine(HT.out _).mono ?_
 rintro e w1 ⟨rfl,hb⟩
 have C1:=hideK (C0.out.call hb)
 clear hb C0
 obtain⟨l0,l1,l2,l3,l4⟩:=lk_cells (C1.out.get 2 rfl)
 obtain⟨k0,k1,k2,k3,k4⟩:=cells5 (C1.out.get 0 rfl)
 have ff:=fun o=>frozen_of_row w1 (w.heap.size+1+1) o _ _ (C1.out.get 0 rfl)
 have X5:=hideK (set5 (C1.out.get 0 rfl) (.int .i64 z) (.int .i64 b) (.string r) (.string s) (.int .i64 y))
 have D1:Hid (Cx w w1 [(w.heap.size+1,.cells #[.int .i64 0,.int .i64 0,.string ⟨#[]⟩,.string ⟨#[]⟩,.int .i64 0] 32)]):=⟨C1.out.low,fun x hx=>C1.out.blk x (by rw[List.mem_singleton.1 hx];simp)⟩
 have ne:∀ x∈[(w.heap.size+1,Obj.cells #[.int .i64 0,.int .i64 0,.string ⟨#[]⟩,.string ⟨#[]⟩,.int .i64 0] 32)],x.1≠w.heap.size+1+1:=fun x hx=>by rw[List.mem_singleton.1 hx];show w.heap.size+1≠w.heap.size+1+1;omega
 have D5:=hideK (((((D1.out.set (g:=w.heap.size+1+1) (by omega) ne 0 (.int .i64 z)).set (g:=w.heap.size+1+1) (by omega) ne 1 (.int .i64 b)).set (g:=w.heap.size+1+1) (by omega) ne 2 (.string r)).set (g:=w.heap.size+1+1) (by omega) ne 3 (.string s)).set (g:=w.heap.size+1+1) (by omega) ne 4 (.int .i64 y))
 clear C1 D1 ne
 go_upto_region 5 with fail
 generalize ((((w1.setCell _ _).setCell _ _).setCell _ _).setCell _ _).setCell _ _=W5 at X5 D5 ⊢
 clear l0 l1 l2 l3 l4 k0 k1 k2 k3 k4 ff
 obtain⟨k0,k1,k2,k3,k4⟩:=cells5 X5.out
 obtain⟨q0,q1,q2,q3,q4⟩:=cells5 (D5.out.get 0 rfl)
 have ff:=fun o=>frozen_of_row W5 (w.heap.size+1) o _ _ (D5.out.get 0 rfl)
 have HF:=hideK (ans5 (D5.out.get 0 rfl) D5.out.low (Nat.le_succ _) (.int .i64 z) (.int .i64 b) (.string r) (.string s) (.int .i64 y))
 have s5:=cells5 HF.out.2
 go_wp2_with fail
 exact bodyPost_ret (v:=.agg #[.int .i64 z,.int .i64 b,.string r,.string s,.int .i64 y]) (by simp[results,Tryz.results31,go_sem,s5.1,s5.2.1,s5.2.2.1,s5.2.2.2.1,s5.2.2.2.2]) rfl ⟨rfl,HF.out.1⟩
theorem eqK_same (z b:Int) (r s:ByteArray) (y:Int) (w:World) :
  Calls Tryz.prog 41 #[kV z b r s y,kV z b r s y] w fun e w'=>e=.returned (.bool true)/\Below w.heap.size w w':=by
 have HL:=hideK (fun W=>eqL_same z b r W)
 have h1:(y != y)=false:=by simp
 have C0:=hideK (((Cx.nil w).new (kB z b r s y)).new (kB z b r s y))
 simp only[World.size_alloc]at C0
 unfold kV
 unfold kB at C0
 go_enter Tryz.func41,Tryz.ntmps41
 go_wp2_with fail
 generalize (w.alloc _).alloc _=W0 at C0 ⊢
 refine(HL.out _).mono ?_
 rintro e w1 ⟨rfl,hb⟩
 have C1:=hideK (C0.out.call hb)
 clear hb C0
 obtain⟨l0,l1,l2,l3,l4⟩:=k_cells (C1.out.get 0 rfl)
 obtain⟨k0,k1,k2,k3,k4⟩:=k_cells (C1.out.get 1 rfl)
 go_wp2_with fail
 go_ret
 exact⟨rfl,C1.out.low⟩
end Go.Proofs.YtpddanmnlkcdpaaGreatDoor.Kp


/- What is kept: records and logs in plain words. -/
namespace Go.Proofs.YtpddanmnlkcdpaaGreatDoor.Kp
open Go.RowKit
open Gn (rd rt run numR run_place rd_place)
theorem run_more (s:ByteArray):∀ f k p u,(run s f k p u).2.2=0->p<(run s f k p u).2.1:=by
 intro f
 induction f with
 |zero=>intro k p u h;exact absurd h (by rw[run];decide)
 |succ f ih =>
  intro k p u
  rw[run]
  split
  ·intro h;exact absurd h (by decide)
  ·split
   ·intro h;exact absurd h (by decide)
   ·split
    ·split
     ·intro h;exact absurd h (by decide)
     ·intro _;exact Nat.lt_succ_self _
    ·intro h
     have:=ih _ _ _ h
     omega
theorem rd_more (s:ByteArray) (a:Int) (h:(rd s a).2.2=0):a.toNat<(rd s a).2.1/\(rd s a).2.1<=s.size/\s.size<=8000:=by
 have h1:=rd_place s a h
 refine⟨?_,h1.2,h1.1⟩
 unfold rd at h ⊢
 split at h
 ·exact absurd h (by decide)
 ·split at h
  ·exact absurd h (by decide)
  ·rename_i h1 h2
   rw[if_neg h1,if_neg h2]
   exact run_more s 10 0 a.toNat 0 h
theorem rt_more (s:ByteArray) (a:Int) (h:(rt s a).2.2=0):a.toNat<(rt s a).2.1/\(rt s a).2.1<=s.size/\s.size<=8000/\(rt s a).1.size<=8000:=by
 unfold rt at h ⊢
 split at h
 ·rename_i h1
  exact absurd h h1
 ·rename_i h1
  have h1':(rd s a).2.2=0:=Decidable.not_not.1 h1
  have hm:=rd_more s a h1'
  split at h
  ·exact absurd h (by decide)
  ·rename_i h2
   split at h
   ·exact absurd h (by decide)
   ·rename_i h3
    rw[if_neg h1,if_neg h2,if_neg h3]
    refine⟨?_,?_,hm.2.2,?_⟩
    ·show a.toNat<(rd s a).2.1+(rd s a).1.toNat
     omega
    ·show (rd s a).2.1+(rd s a).1.toNat<=s.size
     omega
    ·show (s.extract _ _).size<=8000
     rw[ByteArray.size_extract]
     omega
abbrev Rec:=Int × ByteArray × List ByteArray
def pathR (s:ByteArray):Nat->Nat->List ByteArray->Option (List ByteArray × Nat)
 |0,e,l=>some (l,e)
 |n+1,e,l=>if (rt s e).2.2=0 then pathR s n (rt s e).2.1 (l++[(rt s e).1]) else none
theorem pathR_yes {s:ByteArray} {n e:Nat} {l:List ByteArray} (h:(rt s e).2.2=0):pathR s (n+1) e l=pathR s n (rt s e).2.1 (l++[(rt s e).1]):=by
 rw[pathR,if_pos h]
theorem pathR_no {s:ByteArray} {n e:Nat} {l:List ByteArray} (h:¬(rt s e).2.2=0):pathR s (n+1) e l=none:=by
 rw[pathR,if_neg h]
theorem pathR_facts {s:ByteArray}:∀ {n e:Nat} {l:List ByteArray} {q:List ByteArray × Nat},pathR s n e l=some q->q.1.length=l.length+n/\e<=q.2
 |0,e,l,q,h=>by
  rw[pathR]at h
  cases h
  exact⟨rfl,Nat.le_refl _⟩
 |n+1,e,l,q,h=>by
  by_cases hc:(rt s e).2.2=0
  ·rw[pathR_yes hc]at h
   have h1:=pathR_facts h
   have h2:=(rt_more s e hc).1
   rw[List.length_append]at h1
   simp at h1 h2
   omega
  ·rw[pathR_no hc]at h
   cases h
def innerOk (s:ByteArray):Prop:=(rd s 0).2.2=0/\(rt s (rd s 0).2.1).2.2=0/\(rd s (rt s (rd s 0).2.1).2.1).2.2=0/\0<=(rd s (rt s (rd s 0).2.1).2.1).1/\(rd s (rt s (rd s 0).2.1).2.1).1<=20
instance (s:ByteArray):Decidable (innerOk s):=by unfold innerOk;infer_instance
def innerR (s:ByteArray):Option Rec :=
 if innerOk s then
  match pathR s (rd s (rt s (rd s 0).2.1).2.1).1.toNat (rd s (rt s (rd s 0).2.1).2.1).2.1 [] with
  |some q=>if q.2=s.size then some ((rd s 0).1,(rt s (rd s 0).2.1).1,q.1) else none
  |none=>none
 else none
def usT (s:ByteArray):ByteArray:=if 8000<s.size then ⟨#[]⟩ else if s.size<4 then ⟨#[]⟩ else if Se.sealV (s.extract 0 (s.size-4))=s then s.extract 0 (s.size-4) else ⟨#[]⟩
def usC (s:ByteArray):Int:=if 8000<s.size then 2 else if s.size<4 then 4 else if Se.sealV (s.extract 0 (s.size-4))=s then 0 else 5
theorem unseal_all (s:ByteArray):Se.unsealV s=.agg #[.string (usT s),.int .i64 0,.int .i64 (usC s)]:=by
 unfold Se.unsealV usT usC
 split
 ·rfl
 ·split
  ·rfl
  ·split
   ·rfl
   ·rfl
def recR (s:ByteArray) (e:Nat):Option (Rec × Nat) :=
 if (rt s e).2.2=0/\usC (rt s e).1=0 then (innerR (usT (rt s e).1)).map (fun r=>(r,(rt s e).2.1)) else none
theorem innerR_facts {s:ByteArray} {r:Rec} (h:innerR s=some r):r.2.2.length<=20/\r.2.1.size<=8000/\s.size<=8000:=by
 unfold innerR at h
 split at h
 ·rename_i hok
  obtain⟨h1,h2,h3,h4,h5⟩:=hok
  split at h
  ·rename_i q hq
   have hf:=pathR_facts hq
   split at h
   ·cases h
    have:=rt_more _ _ h2
    refine⟨?_,this.2.2.2,this.2.2.1⟩
    show q.1.length<=20
    rw[hf.1]
    simp
    omega
   ·cases h
  ·cases h
 ·cases h
theorem recR_facts {s:ByteArray} {e:Nat} {x:Rec × Nat} (h:recR s e=some x):e<x.2/\x.2<=s.size/\s.size<=8000/\x.1.2.2.length<=20/\x.1.2.1.size<=8000:=by
 unfold recR at h
 split at h
 ·rename_i hc
  have h1:=rt_more s e hc.1
  obtain⟨r,hr,rfl⟩:=Option.map_eq_some_iff.1 h
  have h2:=innerR_facts hr
  exact⟨by simpa using h1.1,h1.2.1,h1.2.2.1,h2.1,h2.2.1⟩
 ·cases h
def hasR (out:List Rec) (i:Int):Bool:=out.any fun r=>r.1==i
def goR (fit:Rec->Bool) (s:ByteArray):Nat->List Rec->Nat->List Rec × Nat
 |0,out,e=>(out,e)
 |f+1,out,e=>if e<s.size then
   match recR s e with
   |some x=>if fit x.1=true/\hasR out x.1.1=false then goR fit s f (out++[x.1]) x.2 else (out,e)
   |none=>(out,e)
  else (out,e)
theorem goR_end {fit:Rec->Bool} {s:ByteArray} {f e:Nat} {out:List Rec} (h:s.size<=e):goR fit s f out e=(out,e):=by
 cases f with
 |zero=>rfl
 |succ f=>rw[goR,if_neg (by omega)]
theorem goR_none {fit:Rec->Bool} {s:ByteArray} {f e:Nat} {out:List Rec} (h:recR s e=none):goR fit s f out e=(out,e):=by
 cases f with
 |zero=>rfl
 |succ f =>
  rw[goR,h]
  split<;>rfl
theorem goR_bad {fit:Rec->Bool} {s:ByteArray} {f e:Nat} {out:List Rec} {x:Rec × Nat} (h:recR s e=some x) (hb:¬(fit x.1=true/\hasR out x.1.1=false)):goR fit s f out e=(out,e):=by
 cases f with
 |zero=>rfl
 |succ f =>
  rw[goR,h]
  split
  ·exact if_neg hb
  ·rfl
theorem goR_fuel {fit:Rec->Bool} {s:ByteArray}:∀ (f g e:Nat) (out:List Rec),s.size-e<=f->s.size-e<=g->goR fit s f out e=goR fit s g out e:=by
 intro f
 induction f with
 |zero=>intro g e out h1 h2;rw[goR_end (by omega),goR_end (by omega)]
 |succ f ih =>
  intro g e out h1 h2
  by_cases he:e<s.size
  ·cases g with
   |zero=>omega
   |succ g =>
    rw[goR,goR,if_pos he,if_pos he]
    cases hr:recR s e with
    |none=>rfl
    |some x =>
     have:=recR_facts hr
     show (if _ then _ else _)=(if _ then _ else _)
     split
     ·exact ih g x.2 _ (by omega) (by omega)
     ·rfl
  ·rw[goR_end (by omega),goR_end (by omega)]
theorem goR_step {fit:Rec->Bool} {s:ByteArray} {e:Nat} {out:List Rec} {x:Rec × Nat} (h:recR s e=some x) (h1:fit x.1=true) (h2:hasR out x.1.1=false):goR fit s (s.size-e) out e=goR fit s (s.size-x.2) (out++[x.1]) x.2:=by
 have hf:=recR_facts h
 obtain⟨k,hk⟩:∃ k,s.size-e=k+1:=⟨s.size-e-1,by omega⟩
 rw[hk,goR,if_pos (by omega),h]
 show (if _ then _ else _)=_
 rw[if_pos ⟨h1,h2⟩]
 exact goR_fuel _ _ _ _ (by omega) (Nat.le_refl _)
def allR (fit:Rec->Bool) (s:ByteArray):List Rec × Nat:=goR fit s (s.size-0) [] 0
theorem goR_le {fit:Rec->Bool} {s:ByteArray}:∀ (f e:Nat) (out:List Rec),e<=s.size->e<=(goR fit s f out e).2/\(goR fit s f out e).2<=s.size:=by
 intro f
 induction f with
 |zero=>intro e out h;exact⟨Nat.le_refl _,h⟩
 |succ f ih =>
  intro e out h
  by_cases he:e<s.size
  ·rw[goR,if_pos he]
   cases hr:recR s e with
   |none=>exact⟨Nat.le_refl _,h⟩
   |some x =>
    have hf:=recR_facts hr
    show e<=(if _ then _ else _:List Rec × Nat).2/\(if _ then _ else _:List Rec × Nat).2<=_
    split
    ·have:=ih x.2 (out++[x.1]) hf.2.1
     omega
    ·exact⟨Nat.le_refl _,h⟩
  ·rw[goR_end (by omega)]
   exact⟨Nat.le_refl _,h⟩
theorem goR_many {fit:Rec->Bool} {s:ByteArray}:∀ (f e:Nat) (out:List Rec),out.length<=e->(goR fit s f out e).1.length<=(goR fit s f out e).2:=by
 intro f
 induction f with
 |zero=>intro e out h;exact h
 |succ f ih =>
  intro e out h
  by_cases he:e<s.size
  ·rw[goR,if_pos he]
   cases hr:recR s e with
   |none=>exact h
   |some x =>
    have hf:=recR_facts hr
    show (if _ then _ else _:List Rec × Nat).1.length<=(if _ then _ else _:List Rec × Nat).2
    split
    ·exact ih x.2 (out++[x.1]) (by rw[List.length_append];simp;omega)
    ·exact h
  ·rw[goR_end (by omega)]
   exact h
theorem allR_many (fit:Rec->Bool) (s:ByteArray):(allR fit s).1.length<=(allR fit s).2:=goR_many _ _ _ (Nat.zero_le _)
theorem allR_le (fit:Rec->Bool) (s:ByteArray):(allR fit s).2<=s.size:=(goR_le _ _ _ (Nat.zero_le _)).2
end Go.Proofs.YtpddanmnlkcdpaaGreatDoor.Kp


namespace Go.Proofs.YtpddanmnlkcdpaaGreatDoor.Kp
open Go.RowKit
open Gn (rd rt tupV errV readText_any)
open St (OwnS one_newS one_cellS app_one)
theorem readPath_any (s:ByteArray) (e n:Nat) (w:World) (hs:s.size<=maxLen) (hn:n<=20) :
  Calls Tryz.prog 173 #[.string s,.int .i64 e,.int .i64 n] w fun r w' =>
   ((∃ q v,pathR s n e []=some q/\r=.returned (.tuple #[v,.int .i64 q.2,.nilIface])/\OwnS w' w.heap.size v q.1) ∨
   (pathR s n e []=none/\∃ c,r=.returned (.tuple #[.slice none 0 0,.int .i64 0,.iface 235 (.agg #[.int .i64 c])])))/\Below w.heap.size w w':=by
 obtain⟨i0,hif,hz0,hz1,hz2⟩:=info_parts St.Tryz.infoS9
 go_enter Tryz.func173,Tryz.ntmps173
 go_wp2_with fail
 go_loopw [14,1,9,10,11,12] (fun jv ev tv _ _ _ wr=>∃ (j e1:Nat) (l:List ByteArray),jv=.int .i64 j/\ev=.int .i64 e1/\j<=n/\l.length=j/\pathR s n e []=pathR s (n-j) e1 l/\OwnS wr w.heap.size tv l/\Below w.heap.size w wr) (fun jv _ _ _ _ _ _=>n-(intOf jv).toNat)
 case atStart=>exact⟨0,e,[],rfl,rfl,Nat.zero_le _,rfl,rfl,OwnS.nil _ _,Below.refl _ _⟩
 case round =>
  obtain⟨j,e1,l,rfl,rfl,hj,hl,hp,ho,hbw⟩:=hrel
  have O:=hideK ho
  have BW:=hideK hbw
  have HP:=hideK hp
  have HL:=hideK hl
  have hzr:=hbw.size
  clear ho hbw hp hl
  by_cases hlt:j<n
  ·have hlt':(j:Int)<(n:Int):=by omega
   have hnj:n-j=(n-(j+1))+1:=by omega
   have HNJ:=hideK hnj
   clear hnj
   have HRT:=hideK (fun W=>readText_any s e1 W hs)
   unfold tupV at HRT
   have HY:=hideK (fun h=>pathR_yes (s:=s) (n:=n-(j+1)) (e:=e1) (l:=l) h)
   have HN:=hideK (fun h=>pathR_no (s:=s) (n:=n-(j+1)) (e:=e1) (l:=l) h)
   generalize rt s e1=x at HRT HY HN
   obtain⟨tx,p,c⟩:=x
   dsimp only at HRT HY HN
   by_cases hc:c=0
   ·have HY1:=hideK (HY.out hc)
    simp only[errV,if_pos hc]at HRT
    clear HY HN hc
    go_wp2_with fail
    refine(HRT.out _).mono ?_
    rintro e w3 ⟨rfl,hb⟩
    have O3:=hideK (O.out.below hb)
    have B3:=hideK (BW.out.trans (hb.mono hzr))
    have hz3:=B3.out.size
    clear hb O HRT
    go_wp2_with (at_builtin;refine wpList_append_own _ rfl (.tmp 26) (.tmp 28) 46 rfl w.heap.size 9 i0 (.string ⟨#[]⟩) 1 16 Tryz.underlying46 hif hz0 hz1 hz2 rfl (by decide) _ _ _ rfl (World.ownsRow.alloc O3.out _) ⟨w3.heap.size,0,none⟩ 1 1 [.string tx] rfl rfl (one_newS w3 _ _) (one_cellS _) (by rw[HL.out];unfold maxLen;omega) (by rw[HL.out];omega) (by simp;omega) ?_)
    intro v' w4 hown hgrow _
    have O4:=hideK (OwnS.snoc hown)
    have B4:=hideK (app_one B3.out hz3 (Nat.le_refl _) O3.out hgrow)
    clear hown hgrow
    go_wp2_with fail
    go_roundw
    case rel=>exact⟨j+1,p,l++[tx],by go_num,rfl,by omega,by rw[List.length_append,HL.out];rfl,by rw[HP.out,HNJ.out,HY1.out],O4.out,B4.out⟩
    case measure=>simp[intOf];omega
   ·have HN1:=hideK (HN.out hc)
    simp only[errV,if_neg hc]at HRT
    clear HY HN hc
    go_wp2_with fail
    refine(HRT.out _).mono ?_
    rintro e w3 ⟨rfl,hb⟩
    have B3:=hideK (BW.out.trans (hb.mono hzr))
    clear hb O HRT
    go_wp2_with fail
    go_ret3
    exact⟨.inr ⟨by rw[HP.out,HNJ.out,HN1.out],c,rfl⟩,B3.out⟩
  ·obtain rfl:j=n:=by omega
   have HE:Hid (pathR s j e []=some (l,e1)):=by
    unfold Hid
    rw[HP.out,Nat.sub_self,pathR]
   go_wp2_with fail
   go_ret3
   exact⟨.inl ⟨(l,e1),_,HE.out,rfl,O.out⟩,BW.out⟩
end Go.Proofs.YtpddanmnlkcdpaaGreatDoor.Kp


/- Blocks of nine cells. -/
namespace Go.Proofs.YtpddanmnlkcdpaaGreatDoor.Pe
open Go.RowKit
open Kp
theorem setC {W:World} {g:Nat} {cs cs':Array Value} {T:TypeId} (h:W.heap[g]? = some (.cells cs T (0,0))) (i:Nat) (a:Value) (hc:cs.setIfInBounds i a=cs'):(W.setCell ⟨g,i,none⟩ a).heap[g]? = some (.cells cs' T (0,0)):=by
 rw[heap_setCell_same W g i _ T a h,hc]
theorem cellsP6 {W:World} {g:Nat} {x0 x1 x2 x3 x4 x5:Value} {T:TypeId} (h:W.heap[g]? = some (.cells #[x0,x1,x2,x3,x4,x5] T (0,0))):W.cell? ⟨g,0,none⟩=some x0/\W.cell? ⟨g,1,none⟩=some x1/\W.cell? ⟨g,2,none⟩=some x2/\W.cell? ⟨g,3,none⟩=some x3/\W.cell? ⟨g,4,none⟩=some x4/\W.cell? ⟨g,5,none⟩=some x5 :=
 ⟨cell_of_row W g 0 _ _ _ h,cell_of_row W g 1 _ _ _ h,cell_of_row W g 2 _ _ _ h,cell_of_row W g 3 _ _ _ h,cell_of_row W g 4 _ _ _ h,cell_of_row W g 5 _ _ _ h⟩
theorem setP6 {W:World} {g:Nat} {x0 x1 x2 x3 x4 x5:Value} {T:TypeId} (h:W.heap[g]? = some (.cells #[x0,x1,x2,x3,x4,x5] T (0,0))) (a0 a1 a2 a3 a4 a5:Value) :
  ((((((W.setCell ⟨g,0,none⟩ a0).setCell ⟨g,1,none⟩ a1).setCell ⟨g,2,none⟩ a2).setCell ⟨g,3,none⟩ a3).setCell ⟨g,4,none⟩ a4).setCell ⟨g,5,none⟩ a5).heap[g]? = some (.cells #[a0,a1,a2,a3,a4,a5] T (0,0)):=by
 have h0:=setC (cs':=#[a0,x1,x2,x3,x4,x5]) h 0 a0 rfl
 have h1:=setC (cs':=#[a0,a1,x2,x3,x4,x5]) h0 1 a1 rfl
 have h2:=setC (cs':=#[a0,a1,a2,x3,x4,x5]) h1 2 a2 rfl
 have h3:=setC (cs':=#[a0,a1,a2,a3,x4,x5]) h2 3 a3 rfl
 have h4:=setC (cs':=#[a0,a1,a2,a3,a4,x5]) h3 4 a4 rfl
 have h5:=setC (cs':=#[a0,a1,a2,a3,a4,a5]) h4 5 a5 rfl
 exact h5
theorem setP6_low {w0 W:World} {g B:Nat} (h:Below B w0 W) (hg:B<=g) (a0 a1 a2 a3 a4 a5:Value):Below B w0 ((((((W.setCell ⟨g,0,none⟩ a0).setCell ⟨g,1,none⟩ a1).setCell ⟨g,2,none⟩ a2).setCell ⟨g,3,none⟩ a3).setCell ⟨g,4,none⟩ a4).setCell ⟨g,5,none⟩ a5) :=
 ((((((h.setCell (p:=⟨g,0,none⟩) hg a0).setCell (p:=⟨g,1,none⟩) hg a1).setCell (p:=⟨g,2,none⟩) hg a2).setCell (p:=⟨g,3,none⟩) hg a3).setCell (p:=⟨g,4,none⟩) hg a4).setCell (p:=⟨g,5,none⟩) hg a5)
theorem setP6_keep {W:World} {g k:Nat} {o:Obj} (h:W.heap[k]? = some o) (hk:k≠g) (a0 a1 a2 a3 a4 a5:Value):((((((W.setCell ⟨g,0,none⟩ a0).setCell ⟨g,1,none⟩ a1).setCell ⟨g,2,none⟩ a2).setCell ⟨g,3,none⟩ a3).setCell ⟨g,4,none⟩ a4).setCell ⟨g,5,none⟩ a5).heap[k]? = some o:=by
 rw[heap_setCell_other _ _ k _ (by exact hk),heap_setCell_other _ _ k _ (by exact hk),heap_setCell_other _ _ k _ (by exact hk),heap_setCell_other _ _ k _ (by exact hk),heap_setCell_other _ _ k _ (by exact hk),heap_setCell_other _ _ k _ (by exact hk)]
 exact h
theorem cellsP8 {W:World} {g:Nat} {x0 x1 x2 x3 x4 x5 x6 x7:Value} {T:TypeId} (h:W.heap[g]? = some (.cells #[x0,x1,x2,x3,x4,x5,x6,x7] T (0,0))):W.cell? ⟨g,0,none⟩=some x0/\W.cell? ⟨g,1,none⟩=some x1/\W.cell? ⟨g,2,none⟩=some x2/\W.cell? ⟨g,3,none⟩=some x3/\W.cell? ⟨g,4,none⟩=some x4/\W.cell? ⟨g,5,none⟩=some x5/\W.cell? ⟨g,6,none⟩=some x6/\W.cell? ⟨g,7,none⟩=some x7 :=
 ⟨cell_of_row W g 0 _ _ _ h,cell_of_row W g 1 _ _ _ h,cell_of_row W g 2 _ _ _ h,cell_of_row W g 3 _ _ _ h,cell_of_row W g 4 _ _ _ h,cell_of_row W g 5 _ _ _ h,cell_of_row W g 6 _ _ _ h,cell_of_row W g 7 _ _ _ h⟩
theorem setP8 {W:World} {g:Nat} {x0 x1 x2 x3 x4 x5 x6 x7:Value} {T:TypeId} (h:W.heap[g]? = some (.cells #[x0,x1,x2,x3,x4,x5,x6,x7] T (0,0))) (a0 a1 a2 a3 a4 a5 a6 a7:Value) :
  ((((((((W.setCell ⟨g,0,none⟩ a0).setCell ⟨g,1,none⟩ a1).setCell ⟨g,2,none⟩ a2).setCell ⟨g,3,none⟩ a3).setCell ⟨g,4,none⟩ a4).setCell ⟨g,5,none⟩ a5).setCell ⟨g,6,none⟩ a6).setCell ⟨g,7,none⟩ a7).heap[g]? = some (.cells #[a0,a1,a2,a3,a4,a5,a6,a7] T (0,0)):=by
 have h0:=setC (cs':=#[a0,x1,x2,x3,x4,x5,x6,x7]) h 0 a0 rfl
 have h1:=setC (cs':=#[a0,a1,x2,x3,x4,x5,x6,x7]) h0 1 a1 rfl
 have h2:=setC (cs':=#[a0,a1,a2,x3,x4,x5,x6,x7]) h1 2 a2 rfl
 have h3:=setC (cs':=#[a0,a1,a2,a3,x4,x5,x6,x7]) h2 3 a3 rfl
 have h4:=setC (cs':=#[a0,a1,a2,a3,a4,x5,x6,x7]) h3 4 a4 rfl
 have h5:=setC (cs':=#[a0,a1,a2,a3,a4,a5,x6,x7]) h4 5 a5 rfl
 have h6:=setC (cs':=#[a0,a1,a2,a3,a4,a5,a6,x7]) h5 6 a6 rfl
 have h7:=setC (cs':=#[a0,a1,a2,a3,a4,a5,a6,a7]) h6 7 a7 rfl
 exact h7
theorem setP8_low {w0 W:World} {g B:Nat} (h:Below B w0 W) (hg:B<=g) (a0 a1 a2 a3 a4 a5 a6 a7:Value):Below B w0 ((((((((W.setCell ⟨g,0,none⟩ a0).setCell ⟨g,1,none⟩ a1).setCell ⟨g,2,none⟩ a2).setCell ⟨g,3,none⟩ a3).setCell ⟨g,4,none⟩ a4).setCell ⟨g,5,none⟩ a5).setCell ⟨g,6,none⟩ a6).setCell ⟨g,7,none⟩ a7) :=
 ((((((((h.setCell (p:=⟨g,0,none⟩) hg a0).setCell (p:=⟨g,1,none⟩) hg a1).setCell (p:=⟨g,2,none⟩) hg a2).setCell (p:=⟨g,3,none⟩) hg a3).setCell (p:=⟨g,4,none⟩) hg a4).setCell (p:=⟨g,5,none⟩) hg a5).setCell (p:=⟨g,6,none⟩) hg a6).setCell (p:=⟨g,7,none⟩) hg a7)
theorem setP8_keep {W:World} {g k:Nat} {o:Obj} (h:W.heap[k]? = some o) (hk:k≠g) (a0 a1 a2 a3 a4 a5 a6 a7:Value):((((((((W.setCell ⟨g,0,none⟩ a0).setCell ⟨g,1,none⟩ a1).setCell ⟨g,2,none⟩ a2).setCell ⟨g,3,none⟩ a3).setCell ⟨g,4,none⟩ a4).setCell ⟨g,5,none⟩ a5).setCell ⟨g,6,none⟩ a6).setCell ⟨g,7,none⟩ a7).heap[k]? = some o:=by
 rw[heap_setCell_other _ _ k _ (by exact hk),heap_setCell_other _ _ k _ (by exact hk),heap_setCell_other _ _ k _ (by exact hk),heap_setCell_other _ _ k _ (by exact hk),heap_setCell_other _ _ k _ (by exact hk),heap_setCell_other _ _ k _ (by exact hk),heap_setCell_other _ _ k _ (by exact hk),heap_setCell_other _ _ k _ (by exact hk)]
 exact h
theorem cellsP9 {W:World} {g:Nat} {x0 x1 x2 x3 x4 x5 x6 x7 x8:Value} {T:TypeId} (h:W.heap[g]? = some (.cells #[x0,x1,x2,x3,x4,x5,x6,x7,x8] T (0,0))):W.cell? ⟨g,0,none⟩=some x0/\W.cell? ⟨g,1,none⟩=some x1/\W.cell? ⟨g,2,none⟩=some x2/\W.cell? ⟨g,3,none⟩=some x3/\W.cell? ⟨g,4,none⟩=some x4/\W.cell? ⟨g,5,none⟩=some x5/\W.cell? ⟨g,6,none⟩=some x6/\W.cell? ⟨g,7,none⟩=some x7/\W.cell? ⟨g,8,none⟩=some x8 :=
 ⟨cell_of_row W g 0 _ _ _ h,cell_of_row W g 1 _ _ _ h,cell_of_row W g 2 _ _ _ h,cell_of_row W g 3 _ _ _ h,cell_of_row W g 4 _ _ _ h,cell_of_row W g 5 _ _ _ h,cell_of_row W g 6 _ _ _ h,cell_of_row W g 7 _ _ _ h,cell_of_row W g 8 _ _ _ h⟩
theorem setP9 {W:World} {g:Nat} {x0 x1 x2 x3 x4 x5 x6 x7 x8:Value} {T:TypeId} (h:W.heap[g]? = some (.cells #[x0,x1,x2,x3,x4,x5,x6,x7,x8] T (0,0))) (a0 a1 a2 a3 a4 a5 a6 a7 a8:Value) :
  (((((((((W.setCell ⟨g,0,none⟩ a0).setCell ⟨g,1,none⟩ a1).setCell ⟨g,2,none⟩ a2).setCell ⟨g,3,none⟩ a3).setCell ⟨g,4,none⟩ a4).setCell ⟨g,5,none⟩ a5).setCell ⟨g,6,none⟩ a6).setCell ⟨g,7,none⟩ a7).setCell ⟨g,8,none⟩ a8).heap[g]? = some (.cells #[a0,a1,a2,a3,a4,a5,a6,a7,a8] T (0,0)):=by
 have h0:=setC (cs':=#[a0,x1,x2,x3,x4,x5,x6,x7,x8]) h 0 a0 rfl
 have h1:=setC (cs':=#[a0,a1,x2,x3,x4,x5,x6,x7,x8]) h0 1 a1 rfl
 have h2:=setC (cs':=#[a0,a1,a2,x3,x4,x5,x6,x7,x8]) h1 2 a2 rfl
 have h3:=setC (cs':=#[a0,a1,a2,a3,x4,x5,x6,x7,x8]) h2 3 a3 rfl
 have h4:=setC (cs':=#[a0,a1,a2,a3,a4,x5,x6,x7,x8]) h3 4 a4 rfl
 have h5:=setC (cs':=#[a0,a1,a2,a3,a4,a5,x6,x7,x8]) h4 5 a5 rfl
 have h6:=setC (cs':=#[a0,a1,a2,a3,a4,a5,a6,x7,x8]) h5 6 a6 rfl
 have h7:=setC (cs':=#[a0,a1,a2,a3,a4,a5,a6,a7,x8]) h6 7 a7 rfl
 have h8:=setC (cs':=#[a0,a1,a2,a3,a4,a5,a6,a7,a8]) h7 8 a8 rfl
 exact h8
theorem setP9_low {w0 W:World} {g B:Nat} (h:Below B w0 W) (hg:B<=g) (a0 a1 a2 a3 a4 a5 a6 a7 a8:Value):Below B w0 (((((((((W.setCell ⟨g,0,none⟩ a0).setCell ⟨g,1,none⟩ a1).setCell ⟨g,2,none⟩ a2).setCell ⟨g,3,none⟩ a3).setCell ⟨g,4,none⟩ a4).setCell ⟨g,5,none⟩ a5).setCell ⟨g,6,none⟩ a6).setCell ⟨g,7,none⟩ a7).setCell ⟨g,8,none⟩ a8) :=
 (((((((((h.setCell (p:=⟨g,0,none⟩) hg a0).setCell (p:=⟨g,1,none⟩) hg a1).setCell (p:=⟨g,2,none⟩) hg a2).setCell (p:=⟨g,3,none⟩) hg a3).setCell (p:=⟨g,4,none⟩) hg a4).setCell (p:=⟨g,5,none⟩) hg a5).setCell (p:=⟨g,6,none⟩) hg a6).setCell (p:=⟨g,7,none⟩) hg a7).setCell (p:=⟨g,8,none⟩) hg a8)
theorem setP9_keep {W:World} {g k:Nat} {o:Obj} (h:W.heap[k]? = some o) (hk:k≠g) (a0 a1 a2 a3 a4 a5 a6 a7 a8:Value):(((((((((W.setCell ⟨g,0,none⟩ a0).setCell ⟨g,1,none⟩ a1).setCell ⟨g,2,none⟩ a2).setCell ⟨g,3,none⟩ a3).setCell ⟨g,4,none⟩ a4).setCell ⟨g,5,none⟩ a5).setCell ⟨g,6,none⟩ a6).setCell ⟨g,7,none⟩ a7).setCell ⟨g,8,none⟩ a8).heap[k]? = some o:=by
 rw[heap_setCell_other _ _ k _ (by exact hk),heap_setCell_other _ _ k _ (by exact hk),heap_setCell_other _ _ k _ (by exact hk),heap_setCell_other _ _ k _ (by exact hk),heap_setCell_other _ _ k _ (by exact hk),heap_setCell_other _ _ k _ (by exact hk),heap_setCell_other _ _ k _ (by exact hk),heap_setCell_other _ _ k _ (by exact hk),heap_setCell_other _ _ k _ (by exact hk)]
 exact h
end Go.Proofs.YtpddanmnlkcdpaaGreatDoor.Pe


namespace Go.Proofs.YtpddanmnlkcdpaaGreatDoor.Kp
open Go.RowKit
open Ls (blkL lowL)
def spanB (s:ByteArray) (y:Int):Bool:=decide (0<=y) && decide (y<=s.size)
theorem synced_any (z b:Int) (r s:ByteArray) (y:Int) (w:World) :
  Calls Tryz.prog 110 #[kV z b r s y] w fun e w'=>e=.returned (.bool (spanB s y))/\Below w.heap.size w w':=by
 have HB:Hid (Below w.heap.size w (w.alloc (kB z b r s y))):=(Below.refl _ _).alloc (Nat.le_refl _) _
 unfold kV
 unfold kB at HB
 by_cases h0:0<=y
 ·have HM:Hid (spanB s y=decide (y<=((s.size:Nat):Int))):=by unfold Hid spanB;rw[decide_eq_true h0,Bool.true_and]
  rw[HM.out]
  go_enter Tryz.func110,Tryz.ntmps110
  go_wp2_with fail
  go_ret
  exact⟨rfl,HB.out⟩
 ·have HM:Hid (spanB s y=false):=by unfold Hid spanB;rw[decide_eq_false h0,Bool.false_and]
  rw[HM.out]
  have h0':decide (0<=y)=false:=decide_eq_false h0
  go_enter Tryz.func110,Tryz.ntmps110
  go_wp2_with fail
  go_ret
  exact⟨rfl,HB.out⟩
end Go.Proofs.YtpddanmnlkcdpaaGreatDoor.Kp


/- Numbers in order: the one rising row of them; a number put in its place. -/
namespace Go.Proofs.YtpddanmnlkcdpaaGreatDoor.Kh
def sortZ (l:List Int):List Int:=l.mergeSort fun x y=>decide (x<=y)
theorem sortZ_length (l:List Int):(sortZ l).length=l.length:=List.length_mergeSort ..
theorem sortZ_nil:sortZ []=[]:=List.mergeSort_nil
theorem sortZ_rises (l:List Int):(sortZ l).Pairwise (·<=·):=by
 have h:=List.pairwise_mergeSort (le:=fun x y:Int=>decide (x<=y)) (fun a b c h1 h2=>by simp at h1 h2 ⊢;omega) (fun a b=>by simp;omega) l
 exact h.imp (fun h=>by simpa using h)
theorem sortZ_perm (l:List Int):(sortZ l).Perm l:=List.mergeSort_perm ..
theorem sortZ_of {s l:List Int} (hp:s.Perm l) (hs:s.Pairwise (·<=·)):s=sortZ l :=
 List.Perm.eq_of_pairwise (le:=fun x y:Int=>x<=y) (fun _ _ _ _ h1 h2=>Int.le_antisymm h1 h2) hs (sortZ_rises l) (hp.trans (sortZ_perm l).symm)
def insZ (s:List Int) (x:Int) (k:Nat):List Int:=s.take k++[x]++s.drop k
theorem insZ_length {s:List Int} {x:Int} {k:Nat}:(insZ s x k).length=s.length+1:=by
 unfold insZ
 simp
 omega
theorem insZ_ok {s l:List Int} {x:Int} {k:Nat} (h:s=sortZ l) (hk:k<=s.length) (hlow:∀ (h:0<k),s[k-1]<=x) (hup:∀ j (hj:j<s.length),k<=j->x<s[j]):insZ s x k=sortZ (l++[x]):=by
 have hs:s.Pairwise (·<=·):=by rw[h];exact sortZ_rises l
 have hp:s.Perm l:=by rw[h];exact sortZ_perm l
 have hm:=List.pairwise_iff_getElem.1 hs
 apply sortZ_of
 ·unfold insZ
  rw[List.append_assoc]
  refine(List.perm_append_comm_assoc _ _ _).trans ?_
  rw[List.take_append_drop]
  exact(List.perm_append_comm).trans (hp.append_right _)
 ·unfold insZ
  rw[List.pairwise_append,List.pairwise_append]
  refine⟨⟨hs.sublist (List.take_sublist _ _),List.pairwise_singleton _ _,?_⟩,hs.sublist (List.drop_sublist _ _),?_⟩
  ·intro a ha b hb
   rw[List.mem_singleton.1 hb]
   obtain⟨j,hj,rfl⟩:=List.getElem_of_mem ha
   rw[List.length_take]at hj
   rw[List.getElem_take]
   have h1:=hlow (by omega)
   by_cases e:j=k-1
   ·subst e;exact h1
   ·have:=hm j (k-1) (by omega) (by omega) (by omega)
    omega
  ·intro a ha b hb
   obtain⟨j,hj,rfl⟩:=List.getElem_of_mem hb
   rw[List.length_drop]at hj
   rw[List.getElem_drop]
   have h1:=hup (k+j) (by omega) (by omega)
   rcases List.mem_append.1 ha with ha|ha
   ·obtain⟨i,hi,rfl⟩:=List.getElem_of_mem ha
    rw[List.length_take]at hi
    rw[List.getElem_take]
    exact hm i (k+j) (by omega) (by omega) (by omega)
   ·rw[List.mem_singleton.1 ha]
    omega
end Go.Proofs.YtpddanmnlkcdpaaGreatDoor.Kh

