/- Texts put together: DwCase. -/
import Derived.Test.YtjfdllgodijibaaGreatDoorWz34
set_option maxRecDepth 100000
set_option maxHeartbeats 8000000
namespace Go.Proofs.YtjfdllgodijibaaGreatDoor.Dr
open Go.RowKit
open St (OwnS)
open Kp (hideK lt_rowK)
open Ls (oV cells4 cells3)
structure Dx (B:Nat) (w W:World) (l:List (Nat × Obj)):Prop where
 aft:Aft B w W
 blk:∀ x∈l,W.heap[x.1]? = some x.2
theorem Dx.nil (B:Nat) (w:World):Dx B w w []:=⟨Aft.refl _ _,fun _ h=>absurd h List.not_mem_nil⟩
theorem Dx.call {B:Nat} {w W W':World} {l:List (Nat × Obj)} (h:Dx B w W l) (hb:Below W.heap.size W W'):Dx B w W' l:=⟨h.aft.trans (aft_below hb),fun x hx=>(hb.block x.1 (lt_rowK (h.blk x hx))).trans (h.blk x hx)⟩
theorem Dx.new {B:Nat} {w W:World} {l:List (Nat × Obj)} (h:Dx B w W l) (o:Obj):Dx B w (W.alloc o) ((W.heap.size,o) :: l):=⟨h.aft.trans (aft_below ((Below.refl _ _).alloc (Nat.le_refl _) o)),fun x hx=>by
 rcases List.mem_cons.1 hx with rfl|hx
 ·exact heap_alloc_new W o
 ·exact Ls.blk_alloc (h.blk x hx) o⟩
theorem Dx.draw {B:Nat} {w W W':World} {l:List (Nat × Obj)} (h:Dx B w W l) (ha:Aft B W W') (hne:∀ x∈l,x.1≠B):Dx B w W' l:=⟨h.aft.trans ha,fun x hx=>(ha.block x.1 (lt_rowK (h.blk x hx)) (hne x hx)).trans (h.blk x hx)⟩
theorem Dx.get {B:Nat} {w W:World} {l:List (Nat × Obj)} (h:Dx B w W l) (i:Nat) {g:Nat} {o:Obj} (hx:l[i]? = some (g,o)):W.heap[g]? = some o:=h.blk (g,o) (List.mem_of_getElem? hx)
theorem aft_set {B:Nat} {w W:World} {g i:Nat} (h:Aft B w W) (hg:w.heap.size<=g) (v:Value):Aft B w (W.setCell ⟨g,i,none⟩ v) :=
 ⟨h.os,h.tape,h.output,by simp;exact h.size,fun k hk hne=>by rw[heap_setCell_other W _ k v (by show k≠g;omega)];exact h.block k hk hne⟩
theorem src_set' {B:Nat} {W:World} {a:Option Addr} {len cap g i:Nat} (h:Src W B a len cap) (hg:B<g) (v:Value):Src (W.setCell ⟨g,i,none⟩ v) B a len cap:=h.stays (fun k hk=>heap_setCell_other W _ k v (by show k≠g;omega))
theorem set4_all {W:World} {g:Nat} {x y z u:Value} {T:TypeId} (h:W.heap[g]? = some (.cells #[x,y,z,u] T (0,0))) (a b c d:Value):((((W.setCell ⟨g,0,none⟩ a).setCell ⟨g,1,none⟩ b).setCell ⟨g,2,none⟩ c).setCell ⟨g,3,none⟩ d).heap[g]? = some (.cells #[a,b,c,d] T (0,0)):=by
 have h0:(W.setCell ⟨g,0,none⟩ a).heap[g]? = some (.cells #[a,y,z,u] T (0,0)):=by rw[heap_setCell_same W g 0 _ T a h];rfl
 have h1:=heap_setCell_same _ g 1 _ T b h0
 have h2:=heap_setCell_same _ g 2 _ T c h1
 have h3:=heap_setCell_same _ g 3 _ T d h2
 exact h3
theorem set3_allD {W:World} {g:Nat} {x y z:Value} {T:TypeId} (h:W.heap[g]? = some (.cells #[x,y,z] T (0,0))) (a b c:Value):(((W.setCell ⟨g,0,none⟩ a).setCell ⟨g,1,none⟩ b).setCell ⟨g,2,none⟩ c).cell? ⟨g,0,none⟩=some a/\(((W.setCell ⟨g,0,none⟩ a).setCell ⟨g,1,none⟩ b).setCell ⟨g,2,none⟩ c).cell? ⟨g,1,none⟩=some b/\(((W.setCell ⟨g,0,none⟩ a).setCell ⟨g,1,none⟩ b).setCell ⟨g,2,none⟩ c).cell? ⟨g,2,none⟩=some c:=by
 have h0:(W.setCell ⟨g,0,none⟩ a).heap[g]? = some (.cells #[a,y,z] T (0,0)):=by rw[heap_setCell_same W g 0 _ T a h];rfl
 have h1:=heap_setCell_same _ g 1 _ T b h0
 have h2:=heap_setCell_same _ g 2 _ T c h1
 exact cells3 h2
theorem ownS_set3 {W:World} {base g:Nat} {v:Value} {l:List ByteArray} {cs:Array Value} {T:TypeId} (h:OwnS W base v l) (hg:W.heap[g]? = some (.cells cs T (0,0))) (hT:T≠9) (x y z:Value):OwnS (((W.setCell ⟨g,0,none⟩ x).setCell ⟨g,1,none⟩ y).setCell ⟨g,2,none⟩ z) base v l:=by
 obtain⟨hl,h⟩:=h
 refine⟨hl,?_⟩
 rcases h with h|⟨k,cap,cur,hv,hk,hb,rest⟩
 ·exact .inl h
 ·have hne:k≠g:=by
   rintro rfl
   rw[hg]at hb
   simp at hb
   exact hT hb.2
  refine .inr ⟨k,cap,cur,hv,hk,?_,rest⟩
  rw[heap_setCell_other _ _ k _ (by exact hne),heap_setCell_other _ _ k _ (by exact hne),heap_setCell_other _ _ k _ (by exact hne)]
  exact hb
def OfC:Prop:=∀ (W:World) (t:ByteArray) (z:Int),t.size<=150->Calls Tryz.prog 30 #[.string t,.int .i64 z] W fun e w'=>(∃ z' b' r' c',r'.size<=32/\e=.returned (oV z' b' r' c'))/\Below W.heap.size W w'
def PcC:Prop:=∀ (W:World) (t:ByteArray) (z:Int),t.size<=150->Calls Tryz.prog 31 #[.string t,.int .i64 z] W fun e w'=>(∃ v l,e=.returned v/\OwnS w' W.heap.size v l/\l.length<=64/\∀ s∈l,s.size<=53)/\Below W.heap.size W w'
def CaseOut (B:Nat) (a:Option Addr) (len cap:Nat) (w:World) (e:Ending) (w':World):Prop :=
 ∃ (t:ByteArray) (z b:Int) (r:ByteArray) (v:Value) (l:List ByteArray),e=.returned (.tuple #[.string t,.agg #[.int .i64 z,.int .i64 b,.string r],v])/\r.size<=32/\OwnS w' w.heap.size v l/\l.length<=64/\(∀ s∈l,s.size<=53)/\Src w' B a len cap/\Aft B w w'
theorem case7_any (B:Nat) (a:Option Addr) (len cap:Nat) (w:World) (hl:len<=1048576) (hs:Src w B a len cap) (hof:OfC) (hpc:PcC) :
  Calls Tryz.prog 14 #[.pointer (some ⟨B,0,none⟩)] w fun e w'=>CaseOut B a len cap w e w':=by
 have hBl:=hs.lt
 have HO:=hideK hof
 have HP:=hideK hpc
 have D0:=hideK ((Dx.nil B w).new (.cells #[.int .i64 0,.int .i64 0,.string ⟨#[]⟩] 30))
 have S0:=hideK (src_alloc hs (.cells #[.int .i64 0,.int .i64 0,.string ⟨#[]⟩] 30))
 clear hs hof hpc
 unfold OfC oV at HO
 go_enter Tryz.func14,Tryz.ntmps14
 go_wp2_with fail
 generalize w.alloc _=W0 at D0 S0 ⊢
 refine(file6_any B a len cap W0 hl S0.out).mono ?_
 rintro e w1 ⟨t,z,ht,_,_,rfl,hs1,ha1⟩
 have D1:=hideK (D0.out.draw ha1 (fun x hx=>by rw[List.mem_singleton.1 hx];show w.heap.size≠B;omega))
 have S1:=hideK hs1
 clear ha1 hs1 D0 S0
 go_wp2_with fail
 go_loopw [5] (fun tv wr=>∃ t:ByteArray,tv=.string t/\t.size<=1002/\wr=w1) (fun tv _=>match tv with|.string t=>t.size|_=>0)
 case atStart=>exact⟨t,rfl,ht,rfl⟩
 case round =>
  obtain⟨t,rfl,ht2,hw⟩:=hrel
  subst hw
  by_cases h150:150<t.size
  ·have h150':(150:Int)<(t.size:Int):=by omega
   have hsz:(t.extract 0 150).size=150:=by rw[ByteArray.size_extract];omega
   have HSZ:=hideK hsz
   clear hsz
   go_wp2_with fail
   go_roundw
   case rel=>exact⟨t.extract 0 150,rfl,by rw[HSZ.out];omega,by trivial⟩
   case measure=>show (t.extract 0 150).size<t.size;rw[HSZ.out];exact h150
  ·have h150':¬(150:Int)<(t.size:Int):=by omega
   have HO1:=hideK (fun W z=>HO.out W t z (by omega))
   have HP1:=hideK (fun W z=>HP.out W t z (by omega))
   clear HO HP
   go_wp2_with fail
   refine(HO1.out _ _).mono ?_
   rintro e w2 ⟨⟨z2,b2,r2,c2,hr2,rfl⟩,hb⟩
   have D2:=hideK ((D1.out.call hb).new (.cells #[.int .i64 z2,.int .i64 b2,.string r2,.int .i64 c2] 64))
   have S2:=hideK (src_alloc (S1.out.below hb) (.cells #[.int .i64 z2,.int .i64 b2,.string r2,.int .i64 c2] 64))
   have hz2:w.heap.size<w2.heap.size:=Nat.lt_of_lt_of_le (lt_rowK (D1.out.get 0 rfl)) hb.size
   clear hb
   go_upto_region 5 with fail
   generalize w2.alloc _=W2 at D2 S2 ⊢
   generalize w2.heap.size=g7 at D2 hz2 ⊢
   clear D1 S1
   obtain⟨y0,y1,y2,y3⟩:=cells4 (D2.out.get 0 rfl)
   by_cases hc:c2=0
   ·have hc':(c2 != 0)=false:=by simpa using hc
    have HCC:=hideK hc
    clear hc
    clear y0 y1 y2
    have HFIN:Hid (∀ (w5:World) (v:Value) (l:List ByteArray),Below W2.heap.size W2 w5->OwnS w5 W2.heap.size v l->Dx B w w5 [(g7,.cells #[.int .i64 z2,.int .i64 b2,.string r2,.int .i64 c2] 64),(w.heap.size,.cells #[.int .i64 0,.int .i64 0,.string ⟨#[]⟩] 30)]/\Src w5 B a len cap/\OwnS w5 w.heap.size v l):=fun w5 v l hb ho=>⟨D2.out.call hb,S2.out.below hb,ho.mono (Nat.le_trans (Nat.le_of_lt (lt_rowK (D2.out.get 1 rfl))) (Nat.le_refl _))⟩
    obtain⟨k0,k1,k2,k3⟩:=cells4 (D2.out.get 0 rfl)
    have HP2:=hideK (fun z=>HP1.out W2.drew z)
    go_wp2_with fail
    go_region_with ((go_at_call 31;refine(HP2.out _).mono ?_;rintro e w5 ⟨⟨v5,l5,rfl,ho5,hl5,hs5⟩,hb5⟩;obtain⟨D5,SS5,OO5⟩:=HFIN.out w5 v5 l5 (Ls.lowL ((Below.refl _ W2).drew) hb5) ho5;have DD5:=hideK D5;have HL5:=hideK hl5;have HZ5:=hideK hs5;obtain⟨a5,c5,hv5,_,_⟩:=ho5.strs;subst hv5;clear ho5 hb5 hl5 hs5;have S5:=hideK SS5;have O5:=hideK OO5;clear D5 SS5 OO5;obtain⟨m0,m1,m2,m3⟩:=cells4 (DD5.out.get 0 rfl);obtain⟨q0,q1,q2⟩:=cells3 (DD5.out.get 1 rfl);have ff:=fun o=>frozen_of_row w5 w.heap.size o _ _ (DD5.out.get 1 rfl)))
    all_goals (
     have s3:=set3_allD (DD5.out.get 1 rfl) (.int .i64 z2) (.int .i64 b2) (.string r2)
     have E3:=hideK (aft_set (aft_set (aft_set DD5.out.aft (Nat.le_refl _) (i:=0) (.int .i64 z2)) (Nat.le_refl _) (i:=1) (.int .i64 b2)) (Nat.le_refl _) (i:=2) (.string r2))
     have F3:=hideK (src_set' (src_set' (src_set' S5.out hBl (i:=0) (.int .i64 z2)) hBl (i:=1) (.int .i64 b2)) hBl (i:=2) (.string r2))
     have G3:=hideK (ownS_set3 O5.out (DD5.out.get 1 rfl) (by decide) (.int .i64 z2) (.int .i64 b2) (.string r2))
     go_wp2_with fail
     exact bodyPost_ret (v:=.tuple #[.string t,.agg #[.int .i64 z2,.int .i64 b2,.string r2],.slice a5 l5.length c5]) (by simp[results,Tryz.results14,go_sem,s3.1,s3.2.1,s3.2.2]) rfl ⟨t,z2,b2,r2,_,l5,rfl,hr2,G3.out,HL5.out,HZ5.out,F3.out,E3.out⟩)
   ·have hc':(c2 != 0)=true:=by simpa using hc
    go_wp2_with fail
    refine(HO1.out _ _).mono ?_
    rintro e w3 ⟨⟨z3,b3,r3,c3,hr3,rfl⟩,hb⟩
    have X3:=hideK (Ls.blkL (D2.out.get 0 rfl) hb)
    have A3:=hideK ((D2.out.call hb).aft)
    have L3:=hideK ((D2.out.call hb).get 1 rfl)
    have T3:=hideK (S2.out.below hb)
    clear hb y0 y1 y2 y3
    obtain⟨y0,y1,y2,y3⟩:=cells4 X3.out
    have ff:=fun o=>frozen_of_row w3 g7 o _ _ X3.out
    have D3:Hid (Dx B w ((((w3.setCell ⟨g7,0,none⟩ (.int .i64 z3)).setCell ⟨g7,1,none⟩ (.int .i64 b3)).setCell ⟨g7,2,none⟩ (.string r3)).setCell ⟨g7,3,none⟩ (.int .i64 c3)) [(g7,.cells #[.int .i64 z3,.int .i64 b3,.string r3,.int .i64 c3] 64),(w.heap.size,.cells #[.int .i64 0,.int .i64 0,.string ⟨#[]⟩] 30)]) :=
     ⟨aft_set (aft_set (aft_set (aft_set A3.out (Nat.le_of_lt hz2) _) (Nat.le_of_lt hz2) _) (Nat.le_of_lt hz2) _) (Nat.le_of_lt hz2) _,fun x hx=>by
      rcases List.mem_cons.1 hx with rfl|hx
      ·exact set4_all X3.out _ _ _ _
      ·rw[List.mem_singleton.1 hx]
       show ((((w3.setCell ⟨g7,0,none⟩ (.int .i64 z3)).setCell ⟨g7,1,none⟩ (.int .i64 b3)).setCell ⟨g7,2,none⟩ (.string r3)).setCell ⟨g7,3,none⟩ (.int .i64 c3)).heap[w.heap.size]? = _
       rw[heap_setCell_other _ _ _ _ (by show w.heap.size≠g7;omega),heap_setCell_other _ _ _ _ (by show w.heap.size≠g7;omega),heap_setCell_other _ _ _ _ (by show w.heap.size≠g7;omega),heap_setCell_other _ _ _ _ (by show w.heap.size≠g7;omega)]
       exact L3.out⟩
    have S3:=hideK (src_set' (src_set' (src_set' (src_set' T3.out (Nat.lt_trans hBl hz2) (i:=0) (.int .i64 z3)) (Nat.lt_trans hBl hz2) (i:=1) (.int .i64 b3)) (Nat.lt_trans hBl hz2) (i:=2) (.string r3)) (Nat.lt_trans hBl hz2) (i:=3) (.int .i64 c3))
    go_upto_region 7 with fail
    generalize (((w3.setCell _ _).setCell _ _).setCell _ _).setCell _ _=W3 at D3 S3 ⊢
    clear y0 y1 y2 y3 ff X3 A3 L3 T3 D2 S2
    have HFIN:Hid (∀ (w5:World) (v:Value) (l:List ByteArray),Below W3.heap.size W3 w5->OwnS w5 W3.heap.size v l->Dx B w w5 [(g7,.cells #[.int .i64 z3,.int .i64 b3,.string r3,.int .i64 c3] 64),(w.heap.size,.cells #[.int .i64 0,.int .i64 0,.string ⟨#[]⟩] 30)]/\Src w5 B a len cap/\OwnS w5 w.heap.size v l):=fun w5 v l hb ho=>⟨D3.out.call hb,S3.out.below hb,ho.mono (Nat.le_trans (Nat.le_of_lt (lt_rowK (D3.out.get 1 rfl))) (Nat.le_refl _))⟩
    obtain⟨k0,k1,k2,k3⟩:=cells4 (D3.out.get 0 rfl)
    have HP2:=hideK (fun z=>HP1.out W3.drew z)
    go_wp2_with fail
    go_region_with ((go_at_call 31;refine(HP2.out _).mono ?_;rintro e w5 ⟨⟨v5,l5,rfl,ho5,hl5,hs5⟩,hb5⟩;obtain⟨D5,SS5,OO5⟩:=HFIN.out w5 v5 l5 (Ls.lowL ((Below.refl _ W3).drew) hb5) ho5;have DD5:=hideK D5;have HL5:=hideK hl5;have HZ5:=hideK hs5;obtain⟨a5,c5,hv5,_,_⟩:=ho5.strs;subst hv5;clear ho5 hb5 hl5 hs5;have S5:=hideK SS5;have O5:=hideK OO5;clear D5 SS5 OO5;obtain⟨m0,m1,m2,m3⟩:=cells4 (DD5.out.get 0 rfl);obtain⟨q0,q1,q2⟩:=cells3 (DD5.out.get 1 rfl);have ff:=fun o=>frozen_of_row w5 w.heap.size o _ _ (DD5.out.get 1 rfl)))
    all_goals (
     have s3:=set3_allD (DD5.out.get 1 rfl) (.int .i64 z3) (.int .i64 b3) (.string r3)
     have E3:=hideK (aft_set (aft_set (aft_set DD5.out.aft (Nat.le_refl _) (i:=0) (.int .i64 z3)) (Nat.le_refl _) (i:=1) (.int .i64 b3)) (Nat.le_refl _) (i:=2) (.string r3))
     have F3:=hideK (src_set' (src_set' (src_set' S5.out hBl (i:=0) (.int .i64 z3)) hBl (i:=1) (.int .i64 b3)) hBl (i:=2) (.string r3))
     have G3:=hideK (ownS_set3 O5.out (DD5.out.get 1 rfl) (by decide) (.int .i64 z3) (.int .i64 b3) (.string r3))
     go_wp2_with fail
     exact bodyPost_ret (v:=.tuple #[.string t,.agg #[.int .i64 z3,.int .i64 b3,.string r3],.slice a5 l5.length c5]) (by simp[results,Tryz.results14,go_sem,s3.1,s3.2.1,s3.2.2]) rfl ⟨t,z3,b3,r3,_,l5,rfl,hr3,G3.out,HL5.out,HZ5.out,F3.out,E3.out⟩)
end Go.Proofs.YtjfdllgodijibaaGreatDoor.Dr

