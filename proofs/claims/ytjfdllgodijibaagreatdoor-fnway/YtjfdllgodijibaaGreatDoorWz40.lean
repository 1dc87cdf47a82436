/- Texts put together: DwWay. -/
import Derived.Test.YtjfdllgodijibaaGreatDoorWz39
import Derived.Test.YtjfdllgodijibaaGreatDoorWz33
set_option maxRecDepth 100000
set_option maxHeartbeats 8000000
namespace Go.Proofs.YtjfdllgodijibaaGreatDoor.Dr
open Go.RowKit
open St (OwnS Strs)
open Kp (hideK lt_rowK)
open Ls (cells3)
theorem ownS_drewD {w:World} {base:Nat} {v:Value} {l:List ByteArray} (h:OwnS w base v l):OwnS w.drew base v l:=h.below (Below.refl _ _).drew
theorem low_allocW {C:Nat} {w W:World} (h:Below C w W) (hC:C<=w.heap.size) (o:Obj):Below C w (W.alloc o):=h.alloc (by have:=h.size;omega) o
theorem drawWay_any (a:Option Addr) (len cap:Nat) (w:World) (hl:len<=1048576) (hr:Row w w.heap.size a len) (hof:OfC) (hpc:PcC) :
  Calls Tryz.prog 4 #[.slice a len cap] w fun e w'=>WayDraw w e w':=by
 have HC:=hideK (fun B W (h:Src W B a len cap)=>case7_any B a len cap W hl h hof hpc)
 have HSO:Hid (Calls _ _ _ _ _):=source_any a len cap w hl hr
 clear hr hof hpc
 go_enter Tryz.func4,Tryz.ntmps4
 go_wp2_with fail
 generalize hB:w.heap.size=B at HSO ⊢
 have HB:=hideK hB
 clear hB
 refine HSO.out.mono ?_
 rintro e w1 ⟨rfl,hs1,hb1,hz1⟩
 have S1:=hideK hs1
 have B1:=hideK hb1
 have hBl:=hs1.lt
 clear hs1 hb1 hz1 HSO
 go_wp2_with fail
 refine(HC.out _ _ S1.out).mono ?_
 rintro e w2 ⟨t2,z2,b2,r2,v2,l2,rfl,hr2,ho2,hl2,hs2,hsr2,ha2⟩
 have S2:=hideK (src_alloc hsr2 (.cells #[.int .i64 z2,.int .i64 b2,.string r2] 30))
 have B2:=hideK ((ha2.below B1.out (Nat.le_refl _) (by omega)).alloc (by have:=ha2.size;omega) (.cells #[.int .i64 z2,.int .i64 b2,.string r2] 30))
 have O2:=hideK (ownS_allocD ho2 (.cells #[.int .i64 z2,.int .i64 b2,.string r2] 30))
 have hz2b:B<w2.heap.size:=by have:=ha2.size;omega
 have HP:=hideK (piece7_any B w1.heap.size a len cap v2 l2 _ hl S2.out O2.out hBl hl2 hs2)
 obtain⟨av2,cv2,hv2,_,_⟩:=ho2.strs
 subst hv2
 clear ha2 hsr2 ho2 S1 B1 O2
 go_upto_region 3 with fail
 generalize hW:w2.alloc _=W2 at S2 B2 HP ⊢
 have hB2:B<W2.heap.size:=by rw[<-hW];simp;omega
 clear hW hz2b
 generalize w2.heap.size=g2
 go_wp2_with fail
 refine HP.out.mono ?_
 rintro e w3 ⟨k3,t3,v3,q3,rfl,ht3,ho3,hq3,hs3,ha3⟩
 have B3:=hideK (ha3.below B2.out (Nat.le_refl _) (by omega))
 have O3:=hideK ho3
 have S3:=hideK hs3
 have hz3:B<w3.heap.size:=hs3.lt
 obtain⟨av3,cv3,hv3,_,_⟩:=ho3.strs
 subst hv3
 clear ha3 hs3 ho3 HP S2 B2
 go_wp2_with fail
 refine(one_any B a len cap 8 _ hl (by omega) S3.out).mono ?_
 rintro e w4 ⟨r4,rfl,hs4,ho4⟩
 have S4:=hideK hs4
 have B4:=hideK (ho4.aft.below B3.out (Nat.le_refl _) (by omega))
 have O4:=hideK (ownS_aftD O3.out ho4.aft hB2)
 have hz4:B<w4.heap.size:=hs4.lt
 have hBn:¬w4.heap.size=B:=by omega
 have hBm:¬B=w4.heap.size:=by omega
 have hbw:w.heap.size=B:=HB.out
 have hBw:B<=w.heap.size:=by omega
 have HBw:=hideK hBw
 clear hs4 ho4 S3 B3 O3 hbw hBw
 cases r4 with
 |true =>
  go_wp2_with fail
  go_region_with (first|(go_at_call 17;(with_reducible refine(n_any B a len cap 4 _ hl (by omega) ?_).mono ?_);(· repeat (first|exact S4.out|refine src_alloc ?_ _|refine src_drew ?_));rintro e w7 ⟨r7,rfl,q0,q1,hs7,ho7⟩;obtain⟨j7,rfl⟩:=Int.eq_ofNat_of_zero_le q0;have hj7:j7<4:=(by omega);have hi7:(j7:Int)<4:=(by omega);have k7:=only_cell ho7;have z7:=ho7.2.2.2.1;have L7:=hideK (ho7.aft.below (show Below B w _ from (by repeat (first|exact B4.out|refine low_allocW ?_ HBw.out _|refine Below.drew ?_))) (Nat.le_refl _) (by simp;omega));have O7:=hideK (ownS_aftD (show OwnS _ W2.heap.size (.slice av3 q3.length cv3) q3 from (by repeat (first|exact O4.out|refine ownS_allocD ?_ _|refine ownS_drewD ?_))) ho7.aft hB2);clear hs7 ho7))
  all_goals (try go_wp2_with fail)
  all_goals (try simp only[pick4])
  all_goals (have hv:=v4_low j7;exact bodyPost_ret (v:=.tuple #[.int .i64 k3,.int .i64 (v4 0 1 64 65 j7),.string t3,.slice av3 q3.length cv3]) (by simp[results,Tryz.results4,go_sem]) rfl ⟨k3,_,t3,_,q3,rfl,hv.1,ht3,(by rw[HB.out];refine St.OwnS.mono ?_ (Nat.le_of_lt hB2);repeat (first|exact O7.out|refine ownS_allocD ?_ _|refine ownS_drewD ?_)),hq3,(by rw[HB.out];repeat (first|exact L7.out|refine low_allocW ?_ HBw.out _|refine Below.drew ?_))⟩)
 |false =>
  have hl2i:(0:Int)<=(l2.length:Int):=by omega
  go_wp2_with fail
  exact bodyPost_ret (v:=.tuple #[.int .i64 k3,.int .i64 l2.length,.string t3,.slice av3 q3.length cv3]) (by simp[results,Tryz.results4,go_sem]) rfl ⟨k3,_,t3,_,q3,rfl,hl2i,ht3,by rw[HB.out];exact O4.out.mono (Nat.le_of_lt hB2),hq3,by rw[HB.out];exact B4.out⟩
end Go.Proofs.YtjfdllgodijibaaGreatDoor.Dr

