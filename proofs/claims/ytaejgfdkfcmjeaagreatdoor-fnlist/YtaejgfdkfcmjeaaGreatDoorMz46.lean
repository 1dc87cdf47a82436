import Derived.Test.YtaejgfdkfcmjeaaGreatDoorMz39
set_option maxRecDepth 100000
set_option maxHeartbeats 8000000
namespace Go.Proofs.YtaejgfdkfcmjeaaGreatDoor
open Go.RowKit
open Go.Proofs.Tryz
namespace Dr
theorem src_drewN {W:World} {B:Nat} {a:Option Addr} {len cap:Nat} (h:Src W B a len cap) (n:Nat):Src (W.drewN n) B a len cap:=h.below (below_drewN (Below.refl _ _) n)
theorem aft_drewN {B:Nat} {w W:World} (h:Aft B w W) (n:Nat):Aft B w (W.drewN n):=h.trans (aft_below (below_drewN (Below.refl _ _) n))
theorem spoil_any (B:Nat) (a:Option Addr) (len cap:Nat) (t:ByteArray) (w:World) (hl:len<=1048576) (ht:t.size<=1048576) (hs:Src w B a len cap) :
  Calls prog 35 #[.pointer (some ⟨B,0,none⟩),.string t] w fun e w'=>∃ r:ByteArray,r.size<=t.size+1/\e=.returned (.string r)/\Src w' B a len cap/\Aft B w w':=by
 have HS:=hideD hs;clear hs
 have hwr:IntKind.i64.wrap ((t.size:Int)+1)=(t.size:Int)+1:=by rw[IntKind.wrap_i64];omega
 go_enter func35,ntmps35
 go_wp2_with fail
 refine(n_any B a len cap ((t.size:Int)+1) _ hl (by omega) HS.o).mono ?_;rintro e w1 ⟨r,rfl,p0,p1,hs1,ho1⟩;obtain⟨k,rfl⟩:=Int.eq_ofNat_of_zero_le p0
 have hk:k<=t.size:=by omega
 have HS1:=hideD hs1;have HA1:=hideD ho1.aft;clear hs1 ho1 p0 p1 HS
 go_wp2_with fail
 refine(n_any B a len cap 17 _ hl (by omega) HS1.o).mono ?_;rintro e w2 ⟨r2,rfl,p0,p1,hs2,ho2⟩;obtain⟨j,rfl⟩:=Int.eq_ofNat_of_zero_le p0
 have hj:j<17:=by omega
 have hji:(j:Int)<17:=by omega
 have HS2:=hideD hs2;have HA2:=hideD (HA1.o.trans ho2.aft);clear hs2 ho2 p0 p1 HS1 HA1;have hcv:=St.one_str w2 ((⟨#[32,10,48,97,45,110,44,58,93,255,40,120,126,49,128,225,59]⟩:ByteArray)[j]'(by show j<17;exact hj)).toNat (UInt8.toNat_lt _)
 have hz2:w2.heap.size<(w2.alloc (.cells #[.int .u8 (((⟨#[32,10,48,97,45,110,44,58,93,255,40,120,126,49,128,225,59]⟩:ByteArray)[j]'(by show j<17;exact hj)).toNat:Int)] 5)).heap.size:=by simp
 have HS3:=hideD (src_alloc HS2.o (.cells #[.int .u8 (((⟨#[32,10,48,97,45,110,44,58,93,255,40,120,126,49,128,225,59]⟩:ByteArray)[j]'(by show j<17;exact hj)).toNat:Int)] 5));have HA3:=hideD (aft_alloc6 HA2.o (.cells #[.int .u8 (((⟨#[32,10,48,97,45,110,44,58,93,255,40,120,126,49,128,225,59]⟩:ByteArray)[j]'(by show j<17;exact hj)).toNat:Int)] 5));clear HS2 HA2 hz2
 go_upto_region 3 with fail
 generalize hww:w2.alloc (.cells #[.int .u8 (((⟨#[32,10,48,97,45,110,44,58,93,255,40,120,126,49,128,225,59]⟩:ByteArray)[j]'(by show j<17;exact hj)).toNat:Int)] 5)=w3 at HS3 HA3 ⊢;generalize hcc:(⟨#[(⟨#[32,10,48,97,45,110,44,58,93,255,40,120,126,49,128,225,59]⟩:ByteArray)[j]'(by show j<17;exact hj)]⟩:ByteArray)=c
 have hcs:c.size=1:=by rw[<-hcc];rfl
 clear hww hcc hcv;have HCS:=hideD hcs
 have s1:(t.extract 0 k).size=k:=by rw[ByteArray.size_extract];omega
 have s2:(t.extract k t.size).size=t.size-k:=by rw[ByteArray.size_extract];omega
 have s3:(t.extract (k+1) t.size).size=t.size-(k+1):=by rw[ByteArray.size_extract];omega
 have HZ4:Hid ((t.extract 0 k++c++t.extract k t.size).size<=t.size+1):=by unfold Hid;rw[ByteArray.size_append,ByteArray.size_append,s1,s2,hcs];omega
 have HZ6:Hid ((t.extract 0 k++t.extract (k+1) t.size).size<=t.size+1):=by unfold Hid;rw[ByteArray.size_append,s1,s3];omega
 have HZ7:Hid ((t.extract 0 k++c++t.extract (k+1) t.size).size<=t.size+1):=by unfold Hid;rw[ByteArray.size_append,ByteArray.size_append,s1,s3,hcs];omega
 have hki:(k:Int)<=(t.size:Int):=by omega
 have m1:¬9223372036854775807<k+c.size:=by omega
 have m2:¬9223372036854775807<k+c.size+(t.size-k):=by omega
 have m3:¬9223372036854775807<k+(t.size-(k+1)):=by omega
 have m4:¬9223372036854775807<k+c.size+(t.size-(k+1)):=by omega
 clear hcs;by_cases hke:k=t.size
 ·have hkb:((k:Int)==(t.size:Int))=true:=by simp;omega
  have HKE:=hideD hke;clear hke
  go_wp2_with fail
  go_quiet (fail)
  go_wp2_with fail
  go_ret;exact⟨_,HZ4.o,rfl,src_drewN HS3.o _,aft_drewN HA3.o _⟩
 ·have hkb:((k:Int)==(t.size:Int))=false:=by simp;omega
  have hk1:(k:Int)+1<=(t.size:Int):=by omega
  have hw1:IntKind.i64.wrap ((k:Int)+1)=(k:Int)+1:=by rw[IntKind.wrap_i64];omega
  go_wp2_with fail
  refine(one_any B a len cap 3 _ hl (by omega) HS3.o).mono ?_;rintro e w4 ⟨r4,rfl,hs4,ho4⟩;have HS4:=hideD hs4;have HA4:=hideD (HA3.o.trans ho4.aft);clear hs4 ho4 HS3 HA3
  cases r4 with
  |true =>
   go_wp2_with fail
   go_quiet (fail)
   go_wp2_with fail
   go_ret;exact⟨_,HZ4.o,rfl,src_drewN HS4.o _,aft_drewN HA4.o _⟩
  |false =>
   go_wp2_with fail
   refine(one_any B a len cap 2 _ hl (by omega) HS4.o).mono ?_;rintro e w5 ⟨r5,rfl,hs5,ho5⟩;have HS5:=hideD hs5;have HA5:=hideD (HA4.o.trans ho5.aft);clear hs5 ho5 HS4 HA4
   cases r5 with
   |true =>
    (go_wp2_with fail)
    go_quiet (fail)
    (go_wp2_with fail);go_ret;exact⟨_,HZ6.o,rfl,src_drewN HS5.o _,aft_drewN HA5.o _⟩
   |false =>
    (go_wp2_with fail)
    go_quiet (fail)
    (go_wp2_with fail);go_ret;exact⟨_,HZ7.o,rfl,src_drewN HS5.o _,aft_drewN HA5.o _⟩
end Dr
namespace Dr
open St (OwnS)
open Kp (hideK lt_rowK)
open Ls (oV cells4 cells3)
structure Dx (B:Nat) (w W:World) (l:List (Nat × Obj)):Prop where
 aft:Aft B w W
 blk:∀ x∈l,W.heap[x.1]? = some x.2
theorem Dx.nil (B:Nat) (w:World):Dx B w w []:=⟨Aft.refl _ _,fun _ h=>absurd h List.not_mem_nil⟩
theorem Dx.call {B:Nat} {w W W':World} {l:List (Nat × Obj)} (h:Dx B w W l) (hb:Below W.heap.size W W'):Dx B w W' l:=⟨h.aft.trans (aft_below hb),fun x hx=>(hb.block x.1 (lt_rowK (h.blk x hx))).trans (h.blk x hx)⟩
theorem Dx.new {B:Nat} {w W:World} {l:List (Nat × Obj)} (h:Dx B w W l) (o:Obj):Dx B w (W.alloc o) ((W.heap.size,o) :: l):=⟨h.aft.trans (aft_below ((Below.refl _ _).alloc nl o)),fun x hx=>by
 rcases List.mem_cons.1 hx with rfl|hx
 ·exact heap_alloc_new W o
 ·exact Ls.blk_alloc (h.blk x hx) o⟩
theorem Dx.draw {B:Nat} {w W W':World} {l:List (Nat × Obj)} (h:Dx B w W l) (ha:Aft B W W') (hne:∀ x∈l,x.1≠B):Dx B w W' l:=⟨h.aft.trans ha,fun x hx=>(ha.block x.1 (lt_rowK (h.blk x hx)) (hne x hx)).trans (h.blk x hx)⟩
theorem Dx.get {B:Nat} {w W:World} {l:List (Nat × Obj)} (h:Dx B w W l) (i:Nat) {g:Nat} {o:Obj} (hx:l[i]? = some (g,o)):W.heap[g]? = some o:=h.blk (g,o) (List.mem_of_getElem? hx)
theorem aft_set {B:Nat} {w W:World} {g i:Nat} (h:Aft B w W) (hg:w.heap.size<=g) (v:Value):Aft B w (W.setCell ⟨g,i,none⟩ v) :=
 ⟨h.os,h.tape,h.output,by simp;exact h.size,fun k hk hne=>by rw[heap_setCell_other W _ k v (by show k≠g;omega)];exact h.block k hk hne⟩
theorem src_set' {B:Nat} {W:World} {a:Option Addr} {len cap g i:Nat} (h:Src W B a len cap) (hg:B<g) (v:Value):Src (W.setCell ⟨g,i,none⟩ v) B a len cap:=h.stays (fun k hk=>heap_setCell_other W _ k v (by show k≠g;omega))
theorem set4_all {W:World} {g:Nat} {x y z u:Value} {T:TypeId} (h:W.heap[g]? = some (.cells #[x,y,z,u] T (0,0))) (a b c d:Value):((((W.setCell ⟨g,0,none⟩ a).setCell ⟨g,1,none⟩ b).setCell ⟨g,2,none⟩ c).setCell ⟨g,3,none⟩ d).heap[g]? = some (.cells #[a,b,c,d] T (0,0)):=by
 have h0:(W.setCell ⟨g,0,none⟩ a).heap[g]? = some (.cells #[a,y,z,u] T (0,0)):=by rw[heap_setCell_same W g 0 _ T a h];rfl
 have h1:=heap_setCell_same _ g 1 _ T b h0;have h2:=heap_setCell_same _ g 2 _ T c h1;have h3:=heap_setCell_same _ g 3 _ T d h2;exact h3
theorem set3_allD {W:World} {g:Nat} {x y z:Value} {T:TypeId} (h:W.heap[g]? = some (.cells #[x,y,z] T (0,0))) (a b c:Value):(((W.setCell ⟨g,0,none⟩ a).setCell ⟨g,1,none⟩ b).setCell ⟨g,2,none⟩ c).cell? ⟨g,0,none⟩=some a/\(((W.setCell ⟨g,0,none⟩ a).setCell ⟨g,1,none⟩ b).setCell ⟨g,2,none⟩ c).cell? ⟨g,1,none⟩=some b/\(((W.setCell ⟨g,0,none⟩ a).setCell ⟨g,1,none⟩ b).setCell ⟨g,2,none⟩ c).cell? ⟨g,2,none⟩=some c:=by
 have h0:(W.setCell ⟨g,0,none⟩ a).heap[g]? = some (.cells #[a,y,z] T (0,0)):=by rw[heap_setCell_same W g 0 _ T a h];rfl
 have h1:=heap_setCell_same _ g 1 _ T b h0;have h2:=heap_setCell_same _ g 2 _ T c h1;exact cells3 h2
theorem ownS_set3 {W:World} {base g:Nat} {v:Value} {l:List ByteArray} {cs:Array Value} {T:TypeId} (h:OwnS W base v l) (hg:W.heap[g]? = some (.cells cs T (0,0))) (hT:T≠9) (x y z:Value):OwnS (((W.setCell ⟨g,0,none⟩ x).setCell ⟨g,1,none⟩ y).setCell ⟨g,2,none⟩ z) base v l:=by
 obtain⟨hl,h⟩:=h;refine⟨hl,?_⟩
 rcases h with h|⟨k,cap,cur,hv,hk,hb,rest⟩
 ·exact .inl h
 ·have hne:k≠g:=by
   rintro rfl;rw[hg]at hb;simp at hb;exact hT hb.2
  refine .inr ⟨k,cap,cur,hv,hk,?_,rest⟩;rw[heap_setCell_other _ _ k _ (by exact hne),heap_setCell_other _ _ k _ (by exact hne),heap_setCell_other _ _ k _ (by exact hne)];exact hb
def OfC:Prop:=∀ (W:World) (t:ByteArray) (z:Int),t.size<=150->Calls prog 12 #[.string t,.int .i64 z] W fun e w'=>(∃ z' b' r' c',r'.size<=32/\e=.returned (oV z' b' r' c'))/\Below W.heap.size W w'
def PcC:Prop:=∀ (W:World) (t:ByteArray) (z:Int),t.size<=150->Calls prog 23 #[.string t,.int .i64 z] W fun e w'=>(∃ v l,e=.returned v/\OwnS w' W.heap.size v l/\l.length<=64/\∀ s∈l,s.size<=53)/\Below W.heap.size W w'
def CaseOut (B:Nat) (a:Option Addr) (len cap:Nat) (w:World) (e:Ending) (w':World):Prop :=
 ∃ (t:ByteArray) (z b:Int) (r:ByteArray) (v:Value) (l:List ByteArray),e=.returned (.tuple #[.string t,.agg #[.int .i64 z,.int .i64 b,.string r],v])/\r.size<=32/\OwnS w' w.heap.size v l/\l.length<=64/\(∀ s∈l,s.size<=53)/\Src w' B a len cap/\Aft B w w'
theorem case7_any (B:Nat) (a:Option Addr) (len cap:Nat) (w:World) (hl:len<=1048576) (hs:Src w B a len cap) (hof:OfC) (hpc:PcC) :
  Calls prog 37 #[.pointer (some ⟨B,0,none⟩)] w fun e w'=>CaseOut B a len cap w e w':=by
 have hBl:=hs.lt;have HO:=hideK hof;have HP:=hideK hpc;have D0:=hideK ((Dx.nil B w).new (.cells #[.int .i64 0,.int .i64 0,.string ⟨#[]⟩] 26));have S0:=hideK (src_alloc hs (.cells #[.int .i64 0,.int .i64 0,.string ⟨#[]⟩] 26));clear hs hof hpc;unfold OfC oV at HO;go_enter func37,ntmps37
 go_wp2_with fail
 generalize w.alloc _=W0 at D0 S0 ⊢;refine(file6_any B a len cap W0 hl S0.o).mono ?_;rintro e w1 ⟨t,z,ht,_,_,rfl,hs1,ha1⟩;have D1:=hideK (D0.o.draw ha1 (fun x hx=>by rw[List.mem_singleton.1 hx];show w.heap.size≠B;omega));have S1:=hideK hs1;clear ha1 hs1 D0 S0
 go_wp2_with fail
 go_loopw [5] (fun tv wr=>∃ t:ByteArray,tv=.string t/\t.size<=1002/\wr=w1) (fun tv _=>match tv with|.string t=>t.size|_=>0)
 case atStart=>exact⟨t,rfl,ht,rfl⟩
 case round =>
  obtain⟨t,rfl,ht2,hw⟩:=hrel;subst hw;by_cases h150:150<t.size
  ·have h150':(150:Int)<(t.size:Int):=by omega
   have hsz:(t.extract 0 150).size=150:=by rw[ByteArray.size_extract];omega
   have HSZ:=hideK hsz;clear hsz
   go_wp2_with fail
   go_roundw
   case rel=>exact⟨t.extract 0 150,rfl,by rw[HSZ.o];omega,by trivial⟩
   case measure=>show (t.extract 0 150).size<t.size;rw[HSZ.o];exact h150
  ·have h150':¬(150:Int)<(t.size:Int):=by omega
   have HO1:=hideK (fun W z=>HO.o W t z (by omega));have HP1:=hideK (fun W z=>HP.o W t z (by omega));clear HO HP
   go_wp2_with fail
   refine(HO1.o _ _).mono ?_;rintro e w2 ⟨⟨z2,b2,r2,c2,hr2,rfl⟩,hb⟩;have D2:=hideK ((D1.o.call hb).new (.cells #[.int .i64 z2,.int .i64 b2,.string r2,.int .i64 c2] 28));have S2:=hideK (src_alloc (S1.o.below hb) (.cells #[.int .i64 z2,.int .i64 b2,.string r2,.int .i64 c2] 28));have hz2:w.heap.size<w2.heap.size:=Nat.lt_of_lt_of_le (lt_rowK (D1.o.get 0 rfl)) hb.size;clear hb
   go_upto_region 5 with fail
   generalize w2.alloc _=W2 at D2 S2 ⊢;generalize w2.heap.size=g7 at D2 hz2 ⊢;clear D1 S1;obtain⟨y0,y1,y2,y3⟩:=cells4 (D2.o.get 0 rfl);by_cases hc:c2=0
   ·have hc':(c2 != 0)=false:=by simpa using hc
    have HCC:=hideK hc;clear hc;clear y0 y1 y2;have HFIN:Hid (∀ (w5:World) (v:Value) (l:List ByteArray),Below W2.heap.size W2 w5->OwnS w5 W2.heap.size v l->Dx B w w5 [(g7,.cells #[.int .i64 z2,.int .i64 b2,.string r2,.int .i64 c2] 28),(w.heap.size,.cells #[.int .i64 0,.int .i64 0,.string ⟨#[]⟩] 26)]/\Src w5 B a len cap/\OwnS w5 w.heap.size v l):=fun w5 v l hb ho=>⟨D2.o.call hb,S2.o.below hb,ho.mono (Nat.le_trans (Nat.le_of_lt (lt_rowK (D2.o.get 1 rfl))) nl)⟩;obtain⟨k0,k1,k2,k3⟩:=cells4 (D2.o.get 0 rfl);have HP2:=hideK (fun z=>HP1.o W2.drew z);(go_wp2_with fail)
    go_region_with ((go_at_call 23;refine(HP2.o _).mono ?_;rintro e w5 ⟨⟨v5,l5,rfl,ho5,hl5,hs5⟩,hb5⟩;obtain⟨D5,SS5,OO5⟩:=HFIN.o w5 v5 l5 (Ls.lowL ((Below.refl _ W2).drew) hb5) ho5;have DD5:=hideK D5;have HL5:=hideK hl5;have HZ5:=hideK hs5;obtain⟨a5,c5,hv5,_,_⟩:=ho5.strs;subst hv5;clear ho5 hb5 hl5 hs5;have S5:=hideK SS5;have O5:=hideK OO5;clear D5 SS5 OO5;obtain⟨m0,m1,m2,m3⟩:=cells4 (DD5.o.get 0 rfl);obtain⟨q0,q1,q2⟩:=cells3 (DD5.o.get 1 rfl);have ff:=fun o=>frozen_of_row w5 w.heap.size o _ _ (DD5.o.get 1 rfl)))
    all_goals (
     have s3:=set3_allD (DD5.o.get 1 rfl) (.int .i64 z2) (.int .i64 b2) (.string r2);have E3:=hideK (aft_set (aft_set (aft_set DD5.o.aft nl (i:=0) (.int .i64 z2)) nl (i:=1) (.int .i64 b2)) nl (i:=2) (.string r2));have F3:=hideK (src_set' (src_set' (src_set' S5.o hBl (i:=0) (.int .i64 z2)) hBl (i:=1) (.int .i64 b2)) hBl (i:=2) (.string r2));have G3:=hideK (ownS_set3 O5.o (DD5.o.get 1 rfl) (by decide) (.int .i64 z2) (.int .i64 b2) (.string r2));(go_wp2_with fail)
     exact bodyPost_ret (v:=.tuple #[.string t,.agg #[.int .i64 z2,.int .i64 b2,.string r2],.slice a5 l5.length c5]) (by simp[results,results37,go_sem,s3.1,s3.2.1,s3.2.2]) rfl ⟨t,z2,b2,r2,_,l5,rfl,hr2,G3.o,HL5.o,HZ5.o,F3.o,E3.o⟩)
   ·have hc':(c2 != 0)=true:=by simpa using hc
    (go_wp2_with fail);refine(HO1.o _ _).mono ?_;rintro e w3 ⟨⟨z3,b3,r3,c3,hr3,rfl⟩,hb⟩;have X3:=hideK (Ls.blkL (D2.o.get 0 rfl) hb);have A3:=hideK ((D2.o.call hb).aft);have L3:=hideK ((D2.o.call hb).get 1 rfl);have T3:=hideK (S2.o.below hb);clear hb y0 y1 y2 y3;obtain⟨y0,y1,y2,y3⟩:=cells4 X3.o;have ff:=fun o=>frozen_of_row w3 g7 o _ _ X3.o
    have D3:Hid (Dx B w ((((w3.setCell ⟨g7,0,none⟩ (.int .i64 z3)).setCell ⟨g7,1,none⟩ (.int .i64 b3)).setCell ⟨g7,2,none⟩ (.string r3)).setCell ⟨g7,3,none⟩ (.int .i64 c3)) [(g7,.cells #[.int .i64 z3,.int .i64 b3,.string r3,.int .i64 c3] 28),(w.heap.size,.cells #[.int .i64 0,.int .i64 0,.string ⟨#[]⟩] 26)]) :=
     ⟨aft_set (aft_set (aft_set (aft_set A3.o (Nat.le_of_lt hz2) _) (Nat.le_of_lt hz2) _) (Nat.le_of_lt hz2) _) (Nat.le_of_lt hz2) _,fun x hx=>by
      rcases List.mem_cons.1 hx with rfl|hx
      ·exact set4_all X3.o _ _ _ _
      ·rw[List.mem_singleton.1 hx]
       show ((((w3.setCell ⟨g7,0,none⟩ (.int .i64 z3)).setCell ⟨g7,1,none⟩ (.int .i64 b3)).setCell ⟨g7,2,none⟩ (.string r3)).setCell ⟨g7,3,none⟩ (.int .i64 c3)).heap[w.heap.size]? = _
       rw[heap_setCell_other _ _ _ _ (by show w.heap.size≠g7;omega),heap_setCell_other _ _ _ _ (by show w.heap.size≠g7;omega),heap_setCell_other _ _ _ _ (by show w.heap.size≠g7;omega),heap_setCell_other _ _ _ _ (by show w.heap.size≠g7;omega)]
       exact L3.o⟩
    have S3:=hideK (src_set' (src_set' (src_set' (src_set' T3.o (Nat.lt_trans hBl hz2) (i:=0) (.int .i64 z3)) (Nat.lt_trans hBl hz2) (i:=1) (.int .i64 b3)) (Nat.lt_trans hBl hz2) (i:=2) (.string r3)) (Nat.lt_trans hBl hz2) (i:=3) (.int .i64 c3))
    go_upto_region 7 with fail
    generalize (((w3.setCell _ _).setCell _ _).setCell _ _).setCell _ _=W3 at D3 S3 ⊢;clear y0 y1 y2 y3 ff X3 A3 L3 T3 D2 S2;have HFIN:Hid (∀ (w5:World) (v:Value) (l:List ByteArray),Below W3.heap.size W3 w5->OwnS w5 W3.heap.size v l->Dx B w w5 [(g7,.cells #[.int .i64 z3,.int .i64 b3,.string r3,.int .i64 c3] 28),(w.heap.size,.cells #[.int .i64 0,.int .i64 0,.string ⟨#[]⟩] 26)]/\Src w5 B a len cap/\OwnS w5 w.heap.size v l):=fun w5 v l hb ho=>⟨D3.o.call hb,S3.o.below hb,ho.mono (Nat.le_trans (Nat.le_of_lt (lt_rowK (D3.o.get 1 rfl))) nl)⟩;obtain⟨k0,k1,k2,k3⟩:=cells4 (D3.o.get 0 rfl);have HP2:=hideK (fun z=>HP1.o W3.drew z);(go_wp2_with fail)
    go_region_with ((go_at_call 23;refine(HP2.o _).mono ?_;rintro e w5 ⟨⟨v5,l5,rfl,ho5,hl5,hs5⟩,hb5⟩;obtain⟨D5,SS5,OO5⟩:=HFIN.o w5 v5 l5 (Ls.lowL ((Below.refl _ W3).drew) hb5) ho5;have DD5:=hideK D5;have HL5:=hideK hl5;have HZ5:=hideK hs5;obtain⟨a5,c5,hv5,_,_⟩:=ho5.strs;subst hv5;clear ho5 hb5 hl5 hs5;have S5:=hideK SS5;have O5:=hideK OO5;clear D5 SS5 OO5;obtain⟨m0,m1,m2,m3⟩:=cells4 (DD5.o.get 0 rfl);obtain⟨q0,q1,q2⟩:=cells3 (DD5.o.get 1 rfl);have ff:=fun o=>frozen_of_row w5 w.heap.size o _ _ (DD5.o.get 1 rfl)))
    all_goals (
     have s3:=set3_allD (DD5.o.get 1 rfl) (.int .i64 z3) (.int .i64 b3) (.string r3);have E3:=hideK (aft_set (aft_set (aft_set DD5.o.aft nl (i:=0) (.int .i64 z3)) nl (i:=1) (.int .i64 b3)) nl (i:=2) (.string r3));have F3:=hideK (src_set' (src_set' (src_set' S5.o hBl (i:=0) (.int .i64 z3)) hBl (i:=1) (.int .i64 b3)) hBl (i:=2) (.string r3));have G3:=hideK (ownS_set3 O5.o (DD5.o.get 1 rfl) (by decide) (.int .i64 z3) (.int .i64 b3) (.string r3));(go_wp2_with fail)
     exact bodyPost_ret (v:=.tuple #[.string t,.agg #[.int .i64 z3,.int .i64 b3,.string r3],.slice a5 l5.length c5]) (by simp[results,results37,go_sem,s3.1,s3.2.1,s3.2.2]) rfl ⟨t,z3,b3,r3,_,l5,rfl,hr3,G3.o,HL5.o,HZ5.o,F3.o,E3.o⟩)
end Dr
namespace Dr
open St (OwnS)
open Kp (hideK lt_rowK)
open Ls (cells3)
theorem Dx.put {B:Nat} {w W:World} {l:List (Nat × Obj)} {g:Nat} {cs:Array Value} {T:TypeId} (h:Dx B w W ((g,.cells cs T) :: l)) (hg:w.heap.size<=g) (hne:∀ x∈l,x.1≠g) (i:Nat) (v:Value):Dx B w (W.setCell ⟨g,i,none⟩ v) ((g,.cells (cs.setIfInBounds i v) T) :: l) :=
 ⟨aft_set h.aft hg v,fun x hx=>by
  rcases List.mem_cons.1 hx with rfl|hx
  ·exact heap_setCell_same W g i _ T v (h.blk (g,.cells cs T) List.mem_cons_self)
  ·exact(heap_setCell_other W _ x.1 v (hne x hx)).trans (h.blk x (List.mem_cons_of_mem _ hx))⟩
def ListOutD (B:Nat) (a:Option Addr) (len cap:Nat) (w:World) (e:Ending) (w':World):Prop :=
 ∃ (z b:Int) (r:ByteArray),e=.returned (.agg #[.int .i64 z,.int .i64 b,.string r])/\r.size<=33/\Src w' B a len cap/\Aft B w w'
theorem list7_any (B:Nat) (a:Option Addr) (len cap:Nat) (w:World) (hl:len<=1048576) (hs:Src w B a len cap) (hof:OfC) (hpc:PcC) :
  Calls prog 30 #[.pointer (some ⟨B,0,none⟩)] w fun e w'=>ListOutD B a len cap w e w':=by
 have hBl:=hs.lt;have HC:=hideK (fun W (h:Src W B a len cap)=>case7_any B a len cap W hl h hof hpc);have D0:=hideK ((Dx.nil B w).new (.cells #[.int .i64 0,.int .i64 0,.string ⟨#[]⟩] 26));have S0:=hideK (src_alloc hs (.cells #[.int .i64 0,.int .i64 0,.string ⟨#[]⟩] 26));clear hs hof hpc;go_enter func30,ntmps30
 go_wp2_with fail
 generalize w.alloc _=W0 at D0 S0 ⊢;refine(HC.o W0 S0.o).mono ?_;rintro e w1 ⟨t,z,b,r,v,l,rfl,hr,ho,_,_,hs1,ha1⟩;have D1:=hideK ((D0.o.draw ha1 (fun x hx=>by rw[List.mem_singleton.1 hx];show w.heap.size≠B;omega)).new (.cells #[.int .i64 z,.int .i64 b,.string r] 26));have S1:=hideK (src_alloc hs1 (.cells #[.int .i64 z,.int .i64 b,.string r] 26));have hz1:w.heap.size<w1.heap.size:=Nat.lt_of_lt_of_le (lt_rowK (D0.o.get 0 rfl)) ha1.size;obtain⟨av,cv,hv,_,_⟩:=ho.strs;subst hv;clear ha1 hs1 D0 S0 HC ho
 go_upto_region 2 with fail
 generalize w1.alloc _=W1 at D1 S1 ⊢;generalize w1.heap.size=g at D1 hz1 ⊢;have hgB:B<g:=Nat.lt_trans hBl hz1
 have hgn:¬g=B:=by omega
 have hgm:¬g=w.heap.size:=by omega
 go_wp2_with fail
 refine(one_any B a len cap 8 _ hl (by omega) S1.o).mono ?_;rintro e w2 ⟨r2,rfl,hs2,ho2⟩;have S2:=hideK hs2;have D2:=hideK (D1.o.draw ho2.aft (fun x hx=>by rcases List.mem_cons.1 hx with rfl|hx;(· exact hgn);rw[List.mem_singleton.1 hx];show w.heap.size≠B;omega));clear hs2 ho2 S1 D1
 cases r2 with
 |false =>
   have X1:=hideK (D2.o.get 0 rfl);have X0:=hideK (D2.o.get 1 rfl);obtain⟨k0,k1,k2⟩:=cells3 X1.o;obtain⟨q0,q1,q2⟩:=cells3 X0.o;have f0:=fun o=>frozen_of_row w2 w.heap.size o _ _ X0.o;have s3:=set3_allD X0.o (.int .i64 z) (.int .i64 b) (.string r);have E3:=hideK (aft_set (aft_set (aft_set D2.o.aft nl (i:=0) (.int .i64 z)) nl (i:=1) (.int .i64 b)) nl (i:=2) (.string r));have F3:=hideK (src_set' (src_set' (src_set' S2.o hBl (i:=0) (.int .i64 z)) hBl (i:=1) (.int .i64 b)) hBl (i:=2) (.string r))
   go_wp2_with fail
   exact bodyPost_ret (v:=.agg #[.int .i64 z,.int .i64 b,.string r]) (by simp[results,results30,go_sem,s3.1,s3.2.1,s3.2.2]) rfl ⟨z,b,r,rfl,(by omega),F3.o,E3.o⟩
 |true =>
  go_wp2_with fail
  refine(n_any B a len cap 4 _ hl (by omega) S2.o).mono ?_;rintro e w3 ⟨r3,rfl,p0,p1,hs3,ho3⟩;obtain⟨j,rfl⟩:=Int.eq_ofNat_of_zero_le p0;have S3:=hideK hs3;have D3:=hideK (D2.o.draw ho3.aft (fun x hx=>by rcases List.mem_cons.1 hx with rfl|hx;(· exact hgn);rw[List.mem_singleton.1 hx];show w.heap.size≠B;omega));clear hs3 ho3 S2 D2
  have hj4:j=0∨j=1∨j=2∨j=3:=by omega
  clear p0 p1
  rcases hj4 with rfl|rfl|rfl|rfl
  ·have S4:=hideK (src_alloc S3.o (.cells #[.int .i64 (-1),.int .i64 0,.int .i64 1000,.int .i64 1001] 2))
   have D4:=hideK (D3.o.new (.cells #[.int .i64 (-1),.int .i64 0,.int .i64 1000,.int .i64 1001] 2));have N4:=fun j hj=>new4 w3 (-1) 0 1000 1001 2 j hj;have hz4:g<w3.heap.size:=lt_rowK (D3.o.get 0 rfl);have hz5:B<w3.heap.size:=S3.o.lt
   go_wp2_with fail
   generalize w3.alloc _=W4 at S4 D4 N4 ⊢;generalize w3.heap.size=g4 at D4 N4 hz4 hz5 ⊢;clear D3 S3;refine(n_any B a len cap 4 _ hl (by omega) S4.o).mono ?_;rintro e w5 ⟨r5,rfl,p0,p1,hs5,ho5⟩;obtain⟨j4,rfl⟩:=Int.eq_ofNat_of_zero_le p0
   have hj4:j4<4:=by omega
   have hj4i:(j4:Int)<4:=by omega
   have c5:=(only_cell ho5 g4 j4 (by omega)).trans (N4 j4 hj4);have S5:=hideK hs5;have D5a:=hideK (D4.o.draw ho5.aft (fun x hx=>by rcases List.mem_cons.1 hx with rfl|hx;(· show g4≠B;omega);rcases List.mem_cons.1 hx with rfl|hx;(· exact hgn);rw[List.mem_singleton.1 hx];show w.heap.size≠B;omega));have D5:Hid (Dx B w w5 _):=⟨D5a.o.aft,fun x hx=>D5a.o.blk x (List.mem_cons_of_mem _ hx)⟩;clear hs5 ho5 S4 D4 D5a N4 p0 p1;obtain⟨y0,y1,y2⟩:=cells3 (D5.o.get 0 rfl);have ff:=fun o=>frozen_of_row w5 g o _ _ (D5.o.get 0 rfl);have D6:=hideK (D5.o.put (Nat.le_of_lt hz1) (fun x hx=>by rw[List.mem_singleton.1 hx];show w.heap.size≠g;omega) 0 (.int .i64 (v4 (-1) 0 1000 1001 j4)));have S6:=hideK (src_set' S5.o hgB (i:=0) (.int .i64 (v4 (-1) 0 1000 1001 j4)))
   go_upto_region 12 with fail
   generalize World.setCell _ _ _=W at D6 S6 ⊢;clear y0 y1 y2 ff;have X1:=hideK (D6.o.get 0 rfl);have X0:=hideK (D6.o.get 1 rfl);obtain⟨k0,k1,k2⟩:=cells3 X1.o;obtain⟨q0,q1,q2⟩:=cells3 X0.o;have f0:=fun o=>frozen_of_row W w.heap.size o _ _ X0.o;have s3:=set3_allD X0.o (.int .i64 (v4 (-1) 0 1000 1001 j4)) (.int .i64 b) (.string r);have E3:=hideK (aft_set (aft_set (aft_set D6.o.aft nl (i:=0) (.int .i64 (v4 (-1) 0 1000 1001 j4))) nl (i:=1) (.int .i64 b)) nl (i:=2) (.string r));have F3:=hideK (src_set' (src_set' (src_set' S6.o hBl (i:=0) (.int .i64 (v4 (-1) 0 1000 1001 j4))) hBl (i:=1) (.int .i64 b)) hBl (i:=2) (.string r))
   go_wp2_with fail
   exact bodyPost_ret (v:=.agg #[.int .i64 (v4 (-1) 0 1000 1001 j4),.int .i64 b,.string r]) (by simp[results,results30,go_sem,s3.1,s3.2.1,s3.2.2]) rfl ⟨(v4 (-1) 0 1000 1001 j4),b,r,rfl,(by omega),F3.o,E3.o⟩
  ·have S4:=hideK (src_alloc S3.o (.cells #[.int .i64 0,.int .i64 1,.int .i64 48,.int .i64 49] 2))
   have D4:=hideK (D3.o.new (.cells #[.int .i64 0,.int .i64 1,.int .i64 48,.int .i64 49] 2));have N4:=fun j hj=>new4 w3 0 1 48 49 2 j hj;have hz4:g<w3.heap.size:=lt_rowK (D3.o.get 0 rfl);have hz5:B<w3.heap.size:=S3.o.lt
   go_wp2_with fail
   generalize w3.alloc _=W4 at S4 D4 N4 ⊢;generalize w3.heap.size=g4 at D4 N4 hz4 hz5 ⊢;clear D3 S3;refine(n_any B a len cap 4 _ hl (by omega) S4.o).mono ?_;rintro e w5 ⟨r5,rfl,p0,p1,hs5,ho5⟩;obtain⟨j4,rfl⟩:=Int.eq_ofNat_of_zero_le p0
   have hj4:j4<4:=by omega
   have hj4i:(j4:Int)<4:=by omega
   have c5:=(only_cell ho5 g4 j4 (by omega)).trans (N4 j4 hj4);have S5:=hideK hs5;have D5a:=hideK (D4.o.draw ho5.aft (fun x hx=>by rcases List.mem_cons.1 hx with rfl|hx;(· show g4≠B;omega);rcases List.mem_cons.1 hx with rfl|hx;(· exact hgn);rw[List.mem_singleton.1 hx];show w.heap.size≠B;omega));have D5:Hid (Dx B w w5 _):=⟨D5a.o.aft,fun x hx=>D5a.o.blk x (List.mem_cons_of_mem _ hx)⟩;clear hs5 ho5 S4 D4 D5a N4 p0 p1;obtain⟨y0,y1,y2⟩:=cells3 (D5.o.get 0 rfl);have ff:=fun o=>frozen_of_row w5 g o _ _ (D5.o.get 0 rfl);have D6:=hideK (D5.o.put (Nat.le_of_lt hz1) (fun x hx=>by rw[List.mem_singleton.1 hx];show w.heap.size≠g;omega) 1 (.int .i64 (v4 0 1 48 49 j4)));have S6:=hideK (src_set' S5.o hgB (i:=1) (.int .i64 (v4 0 1 48 49 j4)))
   go_upto_region 12 with fail
   generalize World.setCell _ _ _=W at D6 S6 ⊢;clear y0 y1 y2 ff;have X1:=hideK (D6.o.get 0 rfl);have X0:=hideK (D6.o.get 1 rfl);obtain⟨k0,k1,k2⟩:=cells3 X1.o;obtain⟨q0,q1,q2⟩:=cells3 X0.o;have f0:=fun o=>frozen_of_row W w.heap.size o _ _ X0.o;have s3:=set3_allD X0.o (.int .i64 z) (.int .i64 (v4 0 1 48 49 j4)) (.string r);have E3:=hideK (aft_set (aft_set (aft_set D6.o.aft nl (i:=0) (.int .i64 z)) nl (i:=1) (.int .i64 (v4 0 1 48 49 j4))) nl (i:=2) (.string r));have F3:=hideK (src_set' (src_set' (src_set' S6.o hBl (i:=0) (.int .i64 z)) hBl (i:=1) (.int .i64 (v4 0 1 48 49 j4))) hBl (i:=2) (.string r))
   go_wp2_with fail
   exact bodyPost_ret (v:=.agg #[.int .i64 z,.int .i64 (v4 0 1 48 49 j4),.string r]) (by simp[results,results30,go_sem,s3.1,s3.2.1,s3.2.2]) rfl ⟨z,(v4 0 1 48 49 j4),r,rfl,(by omega),F3.o,E3.o⟩
  ·obtain⟨y0,y1,y2⟩:=cells3 (D3.o.get 0 rfl)
   have ff:=fun o=>frozen_of_row w3 g o _ _ (D3.o.get 0 rfl);have D4:=hideK (D3.o.put (Nat.le_of_lt hz1) (fun x hx=>by rw[List.mem_singleton.1 hx];show w.heap.size≠g;omega) 2 (.string (r++⟨#[120]⟩)));have S4:=hideK (src_set' S3.o hgB (i:=2) (.string (r++⟨#[120]⟩)))
   have hrz:(r++⟨#[120]⟩:ByteArray).size<=33:=by rw[ByteArray.size_append];show r.size+1<=33;omega
   have hrb:¬9223372036854775807<r.size+1:=by omega
   go_upto_region 12 with fail
   generalize World.setCell _ _ _=W at D4 S4 ⊢;clear y0 y1 y2 ff;have X1:=hideK (D4.o.get 0 rfl);have X0:=hideK (D4.o.get 1 rfl);obtain⟨k0,k1,k2⟩:=cells3 X1.o;obtain⟨q0,q1,q2⟩:=cells3 X0.o;have f0:=fun o=>frozen_of_row W w.heap.size o _ _ X0.o;have s3:=set3_allD X0.o (.int .i64 z) (.int .i64 b) (.string (r++⟨#[120]⟩));have E3:=hideK (aft_set (aft_set (aft_set D4.o.aft nl (i:=0) (.int .i64 z)) nl (i:=1) (.int .i64 b)) nl (i:=2) (.string (r++⟨#[120]⟩)));have F3:=hideK (src_set' (src_set' (src_set' S4.o hBl (i:=0) (.int .i64 z)) hBl (i:=1) (.int .i64 b)) hBl (i:=2) (.string (r++⟨#[120]⟩)))
   go_wp2_with fail
   exact bodyPost_ret (v:=.agg #[.int .i64 z,.int .i64 b,.string (r++⟨#[120]⟩)]) (by simp[results,results30,go_sem,s3.1,s3.2.1,s3.2.2]) rfl ⟨z,b,(r++⟨#[120]⟩),rfl,hrz,F3.o,E3.o⟩
  ·obtain⟨y0,y1,y2⟩:=cells3 (D3.o.get 0 rfl)
   have ff:=fun o=>frozen_of_row w3 g o _ _ (D3.o.get 0 rfl);have D4:=hideK (D3.o.put (Nat.le_of_lt hz1) (fun x hx=>by rw[List.mem_singleton.1 hx];show w.heap.size≠g;omega) 0 (.int .i64 1000));have S4:=hideK (src_set' S3.o hgB (i:=0) (.int .i64 1000))
   go_upto_region 5 with fail
   generalize w3.setCell _ _=W4 at D4 S4 ⊢;clear y0 y1 y2 ff D3 S3
   go_wp2_with fail
   refine(n_any B a len cap 2 _ hl (by omega) S4.o).mono ?_;rintro e w5 ⟨r5,rfl,p0,p1,hs5,ho5⟩;have S5:=hideK hs5;have D5:=hideK (D4.o.draw ho5.aft (fun x hx=>by rcases List.mem_cons.1 hx with rfl|hx;(· exact hgn);rw[List.mem_singleton.1 hx];show w.heap.size≠B;omega));clear hs5 ho5 S4 D4
   have hw5:IntKind.i64.wrap (15+r5)=15+r5:=by rw[IntKind.wrap_i64];omega
   obtain⟨y0,y1,y2⟩:=cells3 (D5.o.get 0 rfl);have ff:=fun o=>frozen_of_row w5 g o _ _ (D5.o.get 0 rfl);have D6:=hideK (D5.o.put (Nat.le_of_lt hz1) (fun x hx=>by rw[List.mem_singleton.1 hx];show w.heap.size≠g;omega) 1 (.int .i64 (15+r5)));have S6:=hideK (src_set' S5.o hgB (i:=1) (.int .i64 (15+r5)))
   go_upto_region 12 with fail
   generalize World.setCell _ _ _=W at D6 S6 ⊢;clear y0 y1 y2 ff;have X1:=hideK (D6.o.get 0 rfl);have X0:=hideK (D6.o.get 1 rfl);obtain⟨k0,k1,k2⟩:=cells3 X1.o;obtain⟨q0,q1,q2⟩:=cells3 X0.o;have f0:=fun o=>frozen_of_row W w.heap.size o _ _ X0.o;have s3:=set3_allD X0.o (.int .i64 1000) (.int .i64 (15+r5)) (.string r);have E3:=hideK (aft_set (aft_set (aft_set D6.o.aft nl (i:=0) (.int .i64 1000)) nl (i:=1) (.int .i64 (15+r5))) nl (i:=2) (.string r));have F3:=hideK (src_set' (src_set' (src_set' S6.o hBl (i:=0) (.int .i64 1000)) hBl (i:=1) (.int .i64 (15+r5))) hBl (i:=2) (.string r))
   go_wp2_with fail
   exact bodyPost_ret (v:=.agg #[.int .i64 1000,.int .i64 (15+r5),.string r]) (by simp[results,results30,go_sem,s3.1,s3.2.1,s3.2.2]) rfl ⟨1000,(15+r5),r,rfl,(by omega),F3.o,E3.o⟩
end Dr
end Go.Proofs.YtaejgfdkfcmjeaaGreatDoor
