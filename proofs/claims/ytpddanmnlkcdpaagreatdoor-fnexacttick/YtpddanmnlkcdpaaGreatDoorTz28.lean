/- Texts put together: GetTextSpec, LsRead. -/
import Derived.Test.YtpddanmnlkcdpaaGreatDoorTz26
import Derived.Test.YtpddanmnlkcdpaaGreatDoorTz27
import Derived.Test.YtpddanmnlkcdpaaGreatDoorTz18
set_option maxRecDepth 100000
set_option maxHeartbeats 8000000
namespace Go.Proofs.YtpddanmnlkcdpaaGreatDoor.Gn
open Go.RowKit
theorem text_spec (s:ByteArray) (a:Int) (w:World) (hs:s.size<=maxLen) :
  Calls Tryz.prog 130 #[.string s,.int .i64 a] w fun e w'=>e=.returned (textV s a)/\Below w.heap.size w w':=by
 obtain⟨⟨n,p,c⟩,hr⟩:∃ r,rd s a=r:=⟨_,rfl⟩
 have hgv:=getV_of s a n p c hr
 by_cases h0:c=0
 ·subst h0
  rw[if_pos rfl]at hgv
  have HGV:=hide hgv
  obtain⟨hs8,hp⟩:=rd_place s a (by rw[hr])
  rw[hr]at hp
  simp only at hp
  clear hgv
  by_cases hn:n<0∨8000<n
  ·have HT:=hide (textV_of s a _ _ _ (rt_size s a n p hr hn))
   clear hr
   by_cases hneg:n<0
   ·clear hn
    go_enter Tryz.func130,Tryz.ntmps130
    go_wp2_with fail
    refine(get_spec s a _ hs).mono ?_
    rw[HGV.out]
    simp only[outN]
    rintro e w1 ⟨rfl,hb1⟩
    obtain⟨hc1,hf1⟩:=bcell hb1
    have hz1:w.heap.size<w1.heap.size:=by have:=hb1.size;simp at this;omega
    have q0:w1.cell? ⟨w.heap.size,0,none⟩=some (.string ⟨#[]⟩):=by rw[hc1 _ _ (by simp)];simp
    have q1:w1.cell? ⟨w.heap.size,1,none⟩=some (.int .i64 0):=by rw[hc1 _ _ (by simp)];simp
    have q2:w1.cell? ⟨w.heap.size,2,none⟩=some (.int .i64 0):=by rw[hc1 _ _ (by simp)];simp
    have f0:∀ o,w1.frozen? ⟨w.heap.size,o,none⟩=false:=fun o=>by rw[hf1 _ _ (by simp)];simp
    have KB:=hide (((Below.refl w.heap.size w).alloc (Nat.le_refl _) _).trans (hb1.mono (by simp)))
    clear hc1 hf1
    go_wp2
    refine bodyPost_ret (v:=outT ⟨#[]⟩ 0 3) (by simp[results,outT,Tryz.results130,go_sem,q0,q1,q2,hz1]) rfl ⟨by rw[HT.out];rfl,?_⟩
    repeat (first|exact KB.out|exact((KB.out.setCell (Nat.le_refl _) _).setCell (Nat.le_refl _) _).setCell (Nat.le_refl _) _|refine Below.drew ?_|refine Below.alloc ?_ (by simp;omega) _)
   ·have hbig:(8000:Int)<n:=by omega
    clear hn
    go_enter Tryz.func130,Tryz.ntmps130
    go_wp2_with fail
    refine(get_spec s a _ hs).mono ?_
    rw[HGV.out]
    simp only[outN]
    rintro e w1 ⟨rfl,hb1⟩
    obtain⟨hc1,hf1⟩:=bcell hb1
    have hz1:w.heap.size<w1.heap.size:=by have:=hb1.size;simp at this;omega
    have q0:w1.cell? ⟨w.heap.size,0,none⟩=some (.string ⟨#[]⟩):=by rw[hc1 _ _ (by simp)];simp
    have q1:w1.cell? ⟨w.heap.size,1,none⟩=some (.int .i64 0):=by rw[hc1 _ _ (by simp)];simp
    have q2:w1.cell? ⟨w.heap.size,2,none⟩=some (.int .i64 0):=by rw[hc1 _ _ (by simp)];simp
    have f0:∀ o,w1.frozen? ⟨w.heap.size,o,none⟩=false:=fun o=>by rw[hf1 _ _ (by simp)];simp
    have KB:=hide (((Below.refl w.heap.size w).alloc (Nat.le_refl _) _).trans (hb1.mono (by simp)))
    clear hc1 hf1
    go_wp2
    refine bodyPost_ret (v:=outT ⟨#[]⟩ 0 3) (by simp[results,outT,Tryz.results130,go_sem,q0,q1,q2,hz1]) rfl ⟨by rw[HT.out];rfl,?_⟩
    repeat (first|exact KB.out|exact((KB.out.setCell (Nat.le_refl _) _).setCell (Nat.le_refl _) _).setCell (Nat.le_refl _) _|refine Below.drew ?_|refine Below.alloc ?_ (by simp;omega) _)
  ·obtain⟨m,rfl⟩:=Int.eq_ofNat_of_zero_le (show 0<=n from by omega)
   have hm8:m<=8000:=by omega
   have hnb:¬((8000:Int)<m):=by omega
   by_cases hl:s.size<p+m
   ·have HT:=hide (textV_of s a _ _ _ (rt_short s a m p hr hm8 hl))
    clear hn hr
    go_enter Tryz.func130,Tryz.ntmps130
    go_wp2_with fail
    refine(get_spec s a _ hs).mono ?_
    rw[HGV.out]
    simp only[outN]
    rintro e w1 ⟨rfl,hb1⟩
    obtain⟨hc1,hf1⟩:=bcell hb1
    have hz1:w.heap.size<w1.heap.size:=by have:=hb1.size;simp at this;omega
    have q0:w1.cell? ⟨w.heap.size,0,none⟩=some (.string ⟨#[]⟩):=by rw[hc1 _ _ (by simp)];simp
    have q1:w1.cell? ⟨w.heap.size,1,none⟩=some (.int .i64 0):=by rw[hc1 _ _ (by simp)];simp
    have q2:w1.cell? ⟨w.heap.size,2,none⟩=some (.int .i64 0):=by rw[hc1 _ _ (by simp)];simp
    have f0:∀ o,w1.frozen? ⟨w.heap.size,o,none⟩=false:=fun o=>by rw[hf1 _ _ (by simp)];simp
    have KB:=hide (((Below.refl w.heap.size w).alloc (Nat.le_refl _) _).trans (hb1.mono (by simp)))
    clear hc1 hf1
    go_wp2
    refine bodyPost_ret (v:=outT ⟨#[]⟩ 0 4) (by simp[results,outT,Tryz.results130,go_sem,q0,q1,q2,hz1]) rfl ⟨by rw[HT.out];rfl,?_⟩
    repeat (first|exact KB.out|exact((KB.out.setCell (Nat.le_refl _) _).setCell (Nat.le_refl _) _).setCell (Nat.le_refl _) _|refine Below.drew ?_|refine Below.alloc ?_ (by simp;omega) _)
   ·have HT:=hide (textV_of s a _ _ _ (rt_ok s a m p hr hm8 hl))
    have hwr:IntKind.i64.wrap ((p:Int)+m)=(p:Int)+m:=by rw[IntKind.wrap_i64];omega
    have hsl:∀ u:World,(Instr.slice 9 (.string s) (some (.int .i64 (p:Int))) (some (.int .i64 ((p:Int)+m))) none).run Tryz.prog u=.ok (.string (s.extract p (p+m))) u:=fun u=>by
     rw[run_slice_string u 9 s .i64 .i64 _ _ Tryz.underlying9 (by omega) (by omega) (by omega)]
     rw[Int.toNat_natCast,show ((p:Int)+m).toNat=p+m from by omega]
    clear hn hr
    go_enter Tryz.func130,Tryz.ntmps130
    go_wp2_with fail
    refine(get_spec s a _ hs).mono ?_
    rw[HGV.out]
    simp only[outN]
    rintro e w1 ⟨rfl,hb1⟩
    obtain⟨hc1,hf1⟩:=bcell hb1
    have hz1:w.heap.size<w1.heap.size:=by have:=hb1.size;simp at this;omega
    have q0:w1.cell? ⟨w.heap.size,0,none⟩=some (.string ⟨#[]⟩):=by rw[hc1 _ _ (by simp)];simp
    have q1:w1.cell? ⟨w.heap.size,1,none⟩=some (.int .i64 0):=by rw[hc1 _ _ (by simp)];simp
    have q2:w1.cell? ⟨w.heap.size,2,none⟩=some (.int .i64 0):=by rw[hc1 _ _ (by simp)];simp
    have f0:∀ o,w1.frozen? ⟨w.heap.size,o,none⟩=false:=fun o=>by rw[hf1 _ _ (by simp)];simp
    have KB:=hide (((Below.refl w.heap.size w).alloc (Nat.le_refl _) _).trans (hb1.mono (by simp)))
    clear hc1 hf1
    go_wp2
    go_region
    go_wp2
    refine bodyPost_ret (v:=outT (s.extract p (p+m)) ((p:Int)+m) 0) (by simp[results,outT,Tryz.results130,go_sem,q0,q1,q2,hz1]) rfl ⟨by rw[HT.out];rfl,?_⟩
    repeat (first|exact KB.out|exact((KB.out.setCell (Nat.le_refl _) _).setCell (Nat.le_refl _) _).setCell (Nat.le_refl _) _|refine Below.drew ?_|refine Below.alloc ?_ (by simp;omega) _)
 ·rw[if_neg h0]at hgv
  have HGV:=hide hgv
  have HT:=hide (textV_of s a _ _ _ (rt_bad s a n p c hr h0))
  have hcn:(c != 0)=true:=by rw[bne_iff_ne];exact h0
  clear hgv hr h0
  go_enter Tryz.func130,Tryz.ntmps130
  go_wp2_with fail
  refine(get_spec s a _ hs).mono ?_
  rw[HGV.out]
  simp only[outN]
  rintro e w1 ⟨rfl,hb1⟩
  obtain⟨hc1,hf1⟩:=bcell hb1
  have hz1:w.heap.size<w1.heap.size:=by have:=hb1.size;simp at this;omega
  have q0:w1.cell? ⟨w.heap.size,0,none⟩=some (.string ⟨#[]⟩):=by rw[hc1 _ _ (by simp)];simp
  have q1:w1.cell? ⟨w.heap.size,1,none⟩=some (.int .i64 0):=by rw[hc1 _ _ (by simp)];simp
  have q2:w1.cell? ⟨w.heap.size,2,none⟩=some (.int .i64 0):=by rw[hc1 _ _ (by simp)];simp
  have f0:∀ o,w1.frozen? ⟨w.heap.size,o,none⟩=false:=fun o=>by rw[hf1 _ _ (by simp)];simp
  have KB:=hide (((Below.refl w.heap.size w).alloc (Nat.le_refl _) _).trans (hb1.mono (by simp)))
  clear hc1 hf1
  go_wp2
  refine bodyPost_ret (v:=outT ⟨#[]⟩ 0 c) (by simp[results,outT,Tryz.results130,go_sem,q0,q1,q2,hz1]) rfl ⟨by rw[HT.out];rfl,?_⟩
  repeat (first|exact KB.out|exact((KB.out.setCell (Nat.le_refl _) _).setCell (Nat.le_refl _) _).setCell (Nat.le_refl _) _|refine Below.drew ?_|refine Below.alloc ?_ (by simp;omega) _)
end Go.Proofs.YtpddanmnlkcdpaaGreatDoor.Gn


/- ListRead: what both sides answer. -/
namespace Go.Proofs.YtpddanmnlkcdpaaGreatDoor.Ls
open Go.RowKit
open Gn (rd getV getV_rd outN handle rt outT textV numR run run_end handle_below rd_codes)
theorem num_all (s:ByteArray) (a:Int):getV s a=.agg #[.int .i64 (rd s a).1,.int .i64 (rd s a).2.1,.int .i64 (rd s a).2.2]:=by
 rw[getV_rd]
 rcases rd_codes s a with h|⟨h,h1,h2⟩
 ·rw[if_pos h,h]
  rfl
 ·rw[if_neg h,h1,h2]
  rfl
theorem text_all (s:ByteArray) (a:Int):textV s a=.agg #[.string (rt s a).1,.int .i64 (rt s a).2.1,.int .i64 (rt s a).2.2]:=rfl
def zR (s:ByteArray):Int:=(rd s 0).1
def bR (s:ByteArray):Int:=(rd s (rd s 0).2.1).1
def rR (s:ByteArray):ByteArray:=(rt s (rd s (rd s 0).2.1).2.1).1
def okR (s:ByteArray):Prop:=¬s.size=0/\bytesL (zR s) (bR s) (rR s)=s
noncomputable def readV (s:ByteArray):Value:=open Classical in if 8000<s.size then oV 0 0 ⟨#[]⟩ 2 else if okR s then oV (zR s) (bR s) (rR s) 0 else oV 0 0 ⟨#[]⟩ 3
theorem set_j3 {W:World} {g:Nat} {x y z:Value} {T:TypeId} (h:W.heap[g]? = some (.cells #[x,y,z] T (0,0))) (v:Value):(W.setCell ⟨g,0,none⟩ v).heap[g]? = some (.cells #[v,y,z] T (0,0))/\(W.setCell ⟨g,1,none⟩ v).heap[g]? = some (.cells #[x,v,z] T (0,0))/\(W.setCell ⟨g,2,none⟩ v).heap[g]? = some (.cells #[x,y,v] T (0,0)):=by
 refine⟨?_,?_,?_⟩
 ·rw[heap_setCell_same W g 0 _ T v h];rfl
 ·rw[heap_setCell_same W g 1 _ T v h];rfl
 ·rw[heap_setCell_same W g 2 _ T v h];rfl
theorem set3_all {W:World} {g:Nat} {x y z:Value} {T:TypeId} (h:W.heap[g]? = some (.cells #[x,y,z] T (0,0))) (a b c:Value) :
  (((W.setCell ⟨g,0,none⟩ a).setCell ⟨g,1,none⟩ b).setCell ⟨g,2,none⟩ c).cell? ⟨g,0,none⟩=some a/\(((W.setCell ⟨g,0,none⟩ a).setCell ⟨g,1,none⟩ b).setCell ⟨g,2,none⟩ c).cell? ⟨g,1,none⟩=some b/\(((W.setCell ⟨g,0,none⟩ a).setCell ⟨g,1,none⟩ b).setCell ⟨g,2,none⟩ c).cell? ⟨g,2,none⟩=some c:=cells3 (set_j3 (set_j3 (set_j3 h a).1 b).2.1 c).2.2
end Go.Proofs.YtpddanmnlkcdpaaGreatDoor.Ls

