/- Texts put together: KeepAddLaw. -/
import Derived.Test.YtmeohaiidmmgkaaGreatDoorKz21
import Derived.Test.YtmeohaiidmmgkaaGreatDoorKz42
import Derived.Test.YtmeohaiidmmgkaaGreatDoorKz44
import Derived.Test.YtmeohaiidmmgkaaGreatDoorKz45
import Derived.Test.YtmeohaiidmmgkaaGreatDoorKz36
import Derived.OpenShut
/- The walk of the law FnExactKeepAdd out of the contracts. -/
namespace Go.Proofs.YtmeohaiidmmgkaaGreatDoor.fnExactKeepAdd
open Go.RowKit
open Go.Proofs.YtmeohaiidmmgkaaGreatDoor.Kp
open Go.Proofs.YtmeohaiidmmgkaaGreatDoor.Ls (HH hh_keep lV rightB vars_keepF lowL blkL)
open Go.Proofs.YtmeohaiidmmgkaaGreatDoor.St (Strs IsStrs strs_of toStr_any eq_any szL_any)
open Go.Proofs.YtmeohaiidmmgkaaGreatDoor.Sh (Vars)
theorem fitF_of (z b : Int) (r : ByteArray) : FitF (fitR z b r) := fun x h => by
 have h1 := fit_facts h
 exact ⟨by omega, by omega, by omega, h1.2.2.2.1, fun q hq => by rw [h1.2.2.2.2 q hq]; omega⟩
theorem addV_out (fit : Rec → Bool) (z b : Int) (r s : ByteArray) (y : Int) (x : Rec) : ∃ z2 b2 r2 s2 y2 c2, addV fit z b r s y x = koV z2 b2 r2 s2 y2 c2 := by
 unfold addV
 split
 ·exact ⟨_, _, _, _, _, _, rfl⟩
 ·split
  ·exact ⟨_, _, _, _, _, _, rfl⟩
  ·split
   ·exact ⟨_, _, _, _, _, _, rfl⟩
   ·split
    ·exact ⟨_, _, _, _, _, _, rfl⟩
    ·split
     ·exact ⟨_, _, _, _, _, _, rfl⟩
     ·exact ⟨_, _, _, _, _, _, rfl⟩
set_option maxRecDepth 100000 in
set_option maxHeartbeats 1000000 in
theorem eqKO_same (z b : Int) (r s : ByteArray) (y c : Int) (w : World) :
  Calls Tryz.prog 17 #[koV z b r s y c, koV z b r s y c] w fun e w' => e = .returned (.bool true) ∧ Below w.heap.size w w' := by
 have HK := hideK (fun W => eqK_same z b r s y W)
 have h1 : (c != c) = false := by simp
 have C0 := hideK (((Cx.nil w).new (.cells #[.int .i64 z, .int .i64 b, .string r, .string s, .int .i64 y, .int .i64 c] 36)).new (.cells #[.int .i64 z, .int .i64 b, .string r, .string s, .int .i64 y, .int .i64 c] 36))
 simp only [World.size_alloc] at C0
 unfold koV
 unfold kV at HK
 go_enter Tryz.func17, Tryz.ntmps17
 go_wp2_with fail
 generalize (w.alloc _).alloc _ = W0 at C0 ⊢
 refine (HK.out _).mono ?_
 rintro e w1 ⟨rfl, hb⟩
 have C1 := hideK (C0.out.call hb)
 clear hb C0
 obtain ⟨l0, l1, l2, l3, l4, l5⟩ := cells6 (C1.out.get 0 rfl)
 obtain ⟨k0, k1, k2, k3, k4, k5⟩ := cells6 (C1.out.get 1 rfl)
 go_wp2_with fail
 go_ret
 exact ⟨rfl, C1.out.low⟩
set_option maxRecDepth 100000 in
set_option maxHeartbeats 4000000 in
theorem walk_in (z b : Int) (r s : ByteArray) (y : Int) (hr : r.size ≤ maxLen) (hs : s.size ≤ maxLen) (i : Int) (t : ByteArray) (ht : t.size ≤ maxLen) (l : List ByteArray) (a : Option Addr) (cap : Nat) (w : World) (hst : Strs w w.heap.size a l) (hn : l.length ≤ maxLen) (hz : ∀ q ∈ l, q.size ≤ maxLen) (hh : HH w) (hV : Vars w) :
  Calls Tryz.prog 4 #[kV z b r s y, .int .i64 i, .string t, .slice a l.length cap] w fun e w' => e = .returned (.bool true) ∧ Below w.heap.size w w' := by
 have C0 := hideK ((Cx.nil w).new (lkB z b r s y))
 unfold lkB at C0
 have HSZ := hideK (fun (L : Nat) (hL : L ≤ 1048576) (W : World) (hW : Below w.heap.size w W) => szL_any L hL a cap l W ((hst.below hW).mono hW.size) hn hz)
 have HTo := hideK (fun (W : World) (hW : Below w.heap.size w W) (h : l.length ≤ 1048576) => toStr_any a cap l W ((hst.below hW).mono hW.size) h)
 have HEq := hideK (fun (x y : Option Addr) (W : World) (B : Nat) (h : l.length ≤ 1048576) hx hy => eq_any x y l.length l.length l W B hx hy h)
 have HI := hideK (fun (x : Option Addr) (W : World) (hs : s.size ≤ 1048576) (ht : t.size ≤ 1048576) (h : l.length ≤ 1048576) (hW : Below w.heap.size w W) (hx : Strs W W.heap.size x l) => keepAdd_impl (fitR z b r) z b r s y ((i, t, l), .slice x l.length l.length) W hs ht h ⟨x, l.length, rfl, Nat.le_refl _, hx⟩ (hh_keep hh hW) (fitC_of z b r W (vars_keepF hV hW)) (fitF_of z b r))
 have HP := hideK (fun (x : Option Addr) (W : World) (hs : s.size ≤ 1048576) (h : l.length ≤ 1048576) (hx : Strs W W.heap.size x l) => keepAdd_spec (fitR z b r) z b r s y ((i, t, l), .slice x l.length l.length) W hs h ⟨x, l.length, rfl, Nat.le_refl _, hx⟩ (fun hq => fitS_of z b r W hq) (fitF_of z b r))
 have HTK := hideK (fun W => toK_any z b r s y W)
 have HSY := hideK (fun W (h : r.size + s.size ≤ 1048576) => szK_yes z b r s y W h)
 have HSN := hideK (fun W (h : ¬ r.size + s.size ≤ 1048576) => szK_no z b r s y W (by unfold maxLen at hr; exact hr) (by unfold maxLen at hs; exact hs) h)
 obtain ⟨z2, b2, r2, s2, y2, c2, hx⟩ := addV_out (fitR z b r) z b r s y (i, t, l)
 dsimp only at HI HP
 rw [hx] at HI HP
 have HE := hideK (fun W => eqKO_same z2 b2 r2 s2 y2 c2 W)
 clear hst hh hV hz hx
 unfold maxLen at hn ht hr hs
 generalize l.length = m at hn HSZ HTo HEq HI HP ⊢
 unfold kV at HI HP HTK HSY HSN ⊢
 unfold koV at HI HP HE
 by_cases h1 : 1048576 < t.size
 ·have h1i : (1048576 : Int) < (t.size : Int) := by omega
  go_enter Tryz.func4, Tryz.ntmps4
  go_wp2_with fail
  go_ret
  exact ⟨rfl, C0.out.low⟩
 ·have h1i : ¬ (1048576 : Int) < (t.size : Int) := by omega
  have h1d : decide ((1048576 : Int) < (t.size : Int)) = false := by simp; omega
  by_cases h2 : r.size + s.size ≤ 1048576
  ·obtain ⟨L, hL⟩ : ∃ L : Nat, (L : Int) = 1048576 - (r.size : Int) - (s.size : Int) := ⟨1048576 - r.size - s.size, by omega⟩
   have hL1 : L ≤ 1048576 := by omega
   rw [← hL] at HSY
   clear hL
   go_enter Tryz.func4, Tryz.ntmps4
   go_wp2_with fail
   generalize w.alloc _ = wa at C0 ⊢
   generalize hgx : w.heap.size = gx at C0 ⊢
   clear hgx
   refine (HSY.out _ h2).mono ?_
   rintro e w1 ⟨rfl, hb⟩
   have C1 := hideK (C0.out.call hb)
   clear hb C0
   have hLn : ¬ ((L : Nat) : Int) < 0 := by omega
   have hLd : decide (((L : Nat) : Int) < 0) = false := by simp
   go_wp2_with fail
   refine (HSZ.out L hL1 _ C1.out.low).mono ?_
   rintro e w2 ⟨rr, rfl, hrr, hw⟩
   subst w2
   by_cases hneg : rr < 0
   ·go_wp2_with fail
    go_ret
    exact ⟨rfl, C1.out.low⟩
   ·have HN := hideK (hrr (by omega)).1
    have hnd : decide (rr < 0) = false := by simp; omega
    clear hrr
    obtain ⟨c0, c1, c2', c3, c4⟩ := lk_cells (C1.out.get 0 rfl)
    go_wp2_with fail
    refine (HTK.out _).mono ?_
    rintro e w2 ⟨rfl, hb⟩
    have C2 := hideK (C1.out.call hb)
    clear hb C1 c0 c1 c2' c3 c4
    go_wp2_with fail
    refine (HTo.out w2 C2.out.low HN.out).mono ?_
    rintro e w3 ⟨rfl, hi, hb⟩
    have S3 := hideK (hi.strs hi.lt)
    have C3 := hideK (C2.out.call hb)
    clear hi hb C2
    go_wp2_with fail
    refine (HP.out (some ⟨w2.heap.size, 0, none⟩) w3 (by omega) HN.out S3.out).mono ?_
    rintro e w4 ⟨rfl, hb⟩
    have D4 := hideK ((C3.out.call hb).new (.cells #[.int .i64 z2, .int .i64 b2, .string r2, .string s2, .int .i64 y2, .int .i64 c2] 36))
    clear hb C3 S3
    go_upto_region 11 with fail
    generalize w4.alloc _ = W4 at D4 ⊢
    generalize w4.heap.size = g4 at D4 ⊢
    go_wp2_with fail
    refine (HTo.out W4 D4.out.low HN.out).mono ?_
    rintro e w5 ⟨rfl, hi, hb⟩
    have I5 := hideK hi
    have D5 := hideK (D4.out.call hb)
    clear hi hb D4
    obtain ⟨c0, c1, c2', c3, c4⟩ := lk_cells (D5.out.get 1 rfl)
    go_wp2_with fail
    refine (HTK.out _).mono ?_
    rintro e w6 ⟨rfl, hb⟩
    have I6 := hideK (I5.out.below hb I5.out.lt)
    have D6 := hideK (D5.out.call hb)
    clear hb D5 I5 c0 c1 c2' c3 c4
    go_wp2_with fail
    refine (HI.out (some ⟨W4.heap.size, 0, none⟩) w6 (by omega) (by omega) HN.out D6.out.low (I6.out.strs I6.out.lt)).mono ?_
    rintro e w7 ⟨rfl, hb⟩
    have I7 := hideK ((I6.out.below hb I6.out.lt).below ((Below.refl _ w7).alloc (Nat.le_refl _) (.cells #[.int .i64 z2, .int .i64 b2, .string r2, .string s2, .int .i64 y2, .int .i64 c2] 36)) (I6.out.below hb I6.out.lt).lt)
    have D7 := hideK ((D6.out.call hb).new (.cells #[.int .i64 z2, .int .i64 b2, .string r2, .string s2, .int .i64 y2, .int .i64 c2] 36))
    clear hb D6 I6
    go_upto_region 13 with fail
    generalize w7.alloc _ = W7 at D7 I7 ⊢
    generalize w7.heap.size = g7 at D7 ⊢
    obtain ⟨a0, a1, a2, a3, a4, a5⟩ := cells6 (D7.out.get 0 rfl)
    obtain ⟨d0, d1, d2, d3, d4, d5⟩ := cells6 (D7.out.get 1 rfl)
    go_wp2_with fail
    refine (HE.out _).mono ?_
    rintro e w8 ⟨rfl, hb⟩
    have I8 := hideK (I7.out.below hb I7.out.lt)
    have C8 := hideK (D7.out.call hb)
    clear hb D7 I7 a0 a1 a2 a3 a4 a5 d0 d1 d2 d3 d4 d5
    go_wp2_with fail
    refine (HTo.out w8 C8.out.low HN.out).mono ?_
    rintro e w9 ⟨rfl, hi, hb⟩
    have I9 := hideK (I8.out.below hb I8.out.lt)
    have J9 := hideK hi
    have C9 := hideK (C8.out.call hb)
    clear hi hb C8 I8
    go_wp2_with fail
    refine (HEq.out (some ⟨W4.heap.size, 0, none⟩) (some ⟨w8.heap.size, 0, none⟩) w9 w9.heap.size HN.out (I9.out.strs I9.out.lt) (J9.out.strs J9.out.lt)).mono ?_
    rintro e w10 ⟨rfl, hb⟩
    have C10 := hideK (C9.out.call hb)
    clear hb C9
    go_wp2_with fail
    go_ret
    exact ⟨rfl, C10.out.low⟩
  ·go_enter Tryz.func4, Tryz.ntmps4
   go_wp2_with fail
   generalize w.alloc _ = wa at C0 ⊢
   refine (HSN.out _ h2).mono ?_
   rintro e w1 ⟨rfl, hb⟩
   have C1 := hideK (C0.out.call hb)
   clear hb C0
   go_wp2_with fail
   go_ret
   exact ⟨rfl, C1.out.low⟩
theorem walk (z b : Int) (r s : ByteArray) (y : Int) (_ : (Lit.int .i64 z).wf = true) (_ : (Lit.int .i64 b).wf = true) (hr : r.size ≤ maxLen) (hs : s.size ≤ maxLen) (_ : (Lit.int .i64 y).wf = true) (i : Int) (_ : (Lit.int .i64 i).wf = true) (t : ByteArray) (ht : t.size ≤ maxLen) (a0 : Option Addr) (len0 cap0 : Nat) (z0 : List ByteArray) {w : World} (w0 : IsStrs w a0 len0 cap0 z0) (hh : HH w) (hV : Vars w) :
  Calls Tryz.prog 4 #[kV z b r s y, .int .i64 i, .string t, .slice a0 len0 cap0] w fun e w' => e = .returned (.bool true) ∧ Below w.heap.size w w' := by
 obtain ⟨l, rfl, hst, hm, _, hz⟩ := strs_of w0
 exact walk_in z b r s y hr hs i t ht l a0 cap0 w hst hm hz hh hV
end Go.Proofs.YtmeohaiidmmgkaaGreatDoor.fnExactKeepAdd

