/- Texts put together: DwDraw. -/
import Derived.Test.YtjfdllgodijibaaGreatDoorWz38
set_option maxRecDepth 100000
set_option maxHeartbeats 8000000
namespace Go.Proofs.YtjfdllgodijibaaGreatDoor.Dr
open Go.RowKit
open St (OwnS Strs)
open Kp (hideK lt_rowK)
open Ls (cells3)
theorem v4_low (j:Nat):0<=v4 0 1 64 65 j/\v4 0 1 64 65 j<=65:=by
 unfold v4
 split<;>(try split)<;>(try split)<;>omega
def WayDraw (w:World) (e:Ending) (w':World):Prop:=∃ (k n:Int) (t:ByteArray) (v:Value) (q:List ByteArray),e=.returned (.tuple #[.int .i64 k,.int .i64 n,.string t,v])/\0<=n/\t.size<=60/\OwnS w' w.heap.size v q/\q.length<=66/\Below w.heap.size w w'
def FitsDraw (w:World) (e:Ending) (w':World):Prop:=∃ (z b:Int) (r:ByteArray) (k:Int) (t:ByteArray) (v:Value) (q:List ByteArray),e=.returned (.tuple #[.agg #[.int .i64 z,.int .i64 b,.string r],.int .i64 k,.string t,v])/\r.size<=32/\t.size<=60/\OwnS w' w.heap.size v q/\q.length<=66/\Below w.heap.size w w'
theorem drawFits_any (a:Option Addr) (len cap:Nat) (w:World) (hl:len<=1048576) (hr:Row w w.heap.size a len) (hof:OfC) (hpc:PcC) :
  Calls Tryz.prog 9 #[.slice a len cap] w fun e w'=>FitsDraw w e w':=by
 have HC:=hideK (fun B W (h:Src W B a len cap)=>case7_any B a len cap W hl h hof hpc)
 have C0:Hid ((w.alloc (.cells #[.int .i64 0,.int .i64 0,.string ⟨#[]⟩] 30)).heap[w.heap.size]? = some (.cells #[.int .i64 0,.int .i64 0,.string ⟨#[]⟩] 30 (0,0))):=heap_alloc_new w _
 have B0:Hid (Below w.heap.size w (w.alloc (.cells #[.int .i64 0,.int .i64 0,.string ⟨#[]⟩] 30))):=(Below.refl _ _).alloc (Nat.le_refl _) _
 have HSO:Hid (Calls _ _ _ _ _):=source_any a len cap (w.alloc (.cells #[.int .i64 0,.int .i64 0,.string ⟨#[]⟩] 30)) hl ((hr.below B0.out).mono B0.out.size)
 have hz0:(w.alloc (.cells #[.int .i64 0,.int .i64 0,.string ⟨#[]⟩] 30)).heap.size=w.heap.size+1:=by simp
 have HZ0:=hideK hz0
 clear hz0 hr hof hpc
 go_enter Tryz.func9,Tryz.ntmps9
 go_wp2_with fail
 generalize w.alloc (.cells #[.int .i64 0,.int .i64 0,.string ⟨#[]⟩] 30)=W0 at C0 B0 HSO HZ0 ⊢
 generalize hB:W0.heap.size=B at HSO HZ0 ⊢
 have HB:=hideK hB
 clear hB
 refine HSO.out.mono ?_
 rintro e w1 ⟨rfl,hs1,hb1,hz1⟩
 have S1:=hideK hs1
 have X1:=hideK ((hb1.block _ (by have:=HZ0.out;omega)).trans C0.out)
 have B1:=hideK (B0.out.trans (hb1.mono (by have:=HZ0.out;omega)))
 have hBl:=hs1.lt
 clear hs1 hb1 hz1 C0 B0 HSO
 go_wp2_with fail
 refine(HC.out _ _ S1.out).mono ?_
 rintro e w2 ⟨t2,z2,b2,r2,v2,l2,rfl,hr2,ho2,hl2,hs2,hsr2,ha2⟩
 have S2:=hideK (src_alloc hsr2 (.cells #[.int .i64 z2,.int .i64 b2,.string r2] 30))
 have X2:=hideK (Ls.blk_alloc ((ha2.block _ (lt_rowK X1.out) (by have:=HZ0.out;omega)).trans X1.out) (.cells #[.int .i64 z2,.int .i64 b2,.string r2] 30))
 have Y2:Hid ((w2.alloc (.cells #[.int .i64 z2,.int .i64 b2,.string r2] 30)).heap[w2.heap.size]? = some (.cells #[.int .i64 z2,.int .i64 b2,.string r2] 30 (0,0))):=heap_alloc_new w2 _
 have B2:=hideK ((ha2.below B1.out (by have:=HZ0.out;omega) (by have:=B1.out.size;omega)).alloc (by have:=B1.out.size;have:=ha2.size;omega) (.cells #[.int .i64 z2,.int .i64 b2,.string r2] 30))
 have O2:=hideK (ownS_allocD ho2 (.cells #[.int .i64 z2,.int .i64 b2,.string r2] 30))
 have hz2:w.heap.size<w2.heap.size:=by have:=HZ0.out;have:=ha2.size;omega
 have hz2b:B<w2.heap.size:=by have:=ha2.size;omega
 have HP:=hideK (piece7_any B w1.heap.size a len cap v2 l2 _ hl S2.out O2.out hBl hl2 hs2)
 obtain⟨av2,cv2,hv2,_,_⟩:=ho2.strs
 subst hv2
 clear ha2 hsr2 ho2 S1 X1 B1 O2
 go_upto_region 3 with fail
 generalize w2.alloc _=W2 at S2 X2 Y2 B2 HP ⊢
 generalize w2.heap.size=g2 at Y2 hz2 hz2b ⊢
 go_wp2_with fail
 refine HP.out.mono ?_
 rintro e w3 ⟨k3,t3,v3,q3,rfl,ht3,ho3,hq3,hs3,ha3⟩
 have X3:=hideK ((ha3.block _ (lt_rowK X2.out) (by have:=HZ0.out;omega)).trans X2.out)
 have Y3:=hideK ((ha3.block _ (lt_rowK Y2.out) (by omega)).trans Y2.out)
 have B3:=hideK (ha3.below B2.out (by have:=HZ0.out;omega) B2.out.size)
 have O3:=hideK (ho3.mono B2.out.size)
 obtain⟨av3,cv3,hv3,_,_⟩:=ho3.strs
 subst hv3
 clear ha3 hs3 ho3 HP
 obtain⟨y0,y1,y2⟩:=cells3 Y3.out
 obtain⟨x0,x1,x2⟩:=cells3 X3.out
 have ff:=fun o=>frozen_of_row w3 w.heap.size o _ _ X3.out
 have s3:=set3_allD X3.out (.int .i64 z2) (.int .i64 b2) (.string r2)
 have O4:=hideK (ownS_set3 O3.out X3.out (by decide) (.int .i64 z2) (.int .i64 b2) (.string r2))
 have B4:=hideK (((B3.out.setCell (p:=⟨w.heap.size,0,none⟩) (Nat.le_refl _) (.int .i64 z2)).setCell (p:=⟨w.heap.size,1,none⟩) (Nat.le_refl _) (.int .i64 b2)).setCell (p:=⟨w.heap.size,2,none⟩) (Nat.le_refl _) (.string r2))
 go_wp2_with fail
 exact bodyPost_ret (v:=.tuple #[.agg #[.int .i64 z2,.int .i64 b2,.string r2],.int .i64 k3,.string t3,.slice av3 q3.length cv3]) (by simp[results,Tryz.results9,go_sem,s3.1,s3.2.1,s3.2.2]) rfl ⟨z2,b2,r2,k3,t3,_,q3,rfl,hr2,ht3,O4.out,hq3,B4.out⟩
end Go.Proofs.YtjfdllgodijibaaGreatDoor.Dr

