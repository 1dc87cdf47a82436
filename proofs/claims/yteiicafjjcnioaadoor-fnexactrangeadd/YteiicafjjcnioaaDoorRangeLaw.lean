/- The laws' own helpers on ranges, and the walk of the law on RangeRoot. -/
import Derived.Test.YteiicafjjcnioaaDoorRangeRoot
import Derived.Test.YteiicafjjcnioaaDoorStrIn
import Derived.Test.YteiicafjjcnioaaDoorStrArg
import Derived.Deep.RegionWith
namespace Go.Proofs.YteiicafjjcnioaaDoor.St
open Go.RowKit
open Go.Proofs.YteiicafjjcnioaaDoor.Tr (below2)

/-- a range as a value -/
def rngV (n : Int) (v : Value) : Value := .agg #[.int .i64 n, v]

set_option maxHeartbeats 1000000 in
theorem szR_any (n : Int) (a : Option Addr) (cap : Nat) (l : List ByteArray) (w : World) (h : Strs w w.heap.size a l) (hn : l.length ≤ maxLen) (hs : ∀ s ∈ l, s.size ≤ maxLen) :
    Calls Tryd.prog 57 #[.agg #[.int .i64 n, .slice a l.length cap], .int .i64 1048576] w fun e w' => ∃ r : Int, e = .returned (.int .i64 r) ∧ (0 ≤ r → l.length ≤ 1048576 ∧ ∀ s ∈ l, s.size ≤ 1048576) ∧ Below w.heap.size w w' := by
  have HZ := hideT (fun (W : World) (hW : Below w.heap.size w W) => sz_any a cap l W ((h.below hW).mono hW.size) hn hs)
  clear h hs
  unfold maxLen at hn
  generalize l.length = m at hn HZ ⊢
  go_enter Tryd.func57, Tryd.ntmps57
  go_wp2_with fail
  refine (HZ.out _ ((Below.refl _ _).alloc (Nat.le_refl _) _)).mono ?_
  rintro e w1 ⟨r, rfl, hr, hw⟩
  subst w1
  have HR := hideT hr
  clear hr
  by_cases hneg : r < 0
  · go_wp2_with fail
    go_ret
    exact ⟨-1, rfl, fun h => by omega, (Below.refl _ _).alloc (Nat.le_refl _) _⟩
  · go_wp2_with fail
    go_ret
    exact ⟨r, rfl, HR.out, (Below.refl _ _).alloc (Nat.le_refl _) _⟩

set_option maxRecDepth 100000 in
set_option maxHeartbeats 2000000 in
theorem toR_any (n : Int) (a : Option Addr) (cap : Nat) (l : List ByteArray) (w : World) (h : Strs w w.heap.size a l) (hn : l.length ≤ 1048576) :
    Calls Tryd.prog 58 #[.agg #[.int .i64 n, .slice a l.length cap]] w fun e w' => ∃ g, e = .returned (.agg #[.int .i64 n, .slice (some ⟨g, 0, none⟩) l.length l.length]) ∧ w.heap.size ≤ g ∧ IsS w' g 9 l ∧ Below w.heap.size w w' := by
  have HTo := hideT (fun (W : World) (hW : Below w.heap.size w W) => toStr_any a cap l W ((h.below hW).mono hW.size) hn)
  clear h
  generalize l.length = m at hn HTo ⊢
  go_enter Tryd.func58, Tryd.ntmps58
  go_wp2_with fail
  obtain ⟨W, hWd⟩ : ∃ W, W = ((w.alloc (.cells #[.int .i64 n, .slice a m cap] 58)).alloc (.cells #[.int .i64 0, .slice none 0 0] 40)).alloc (.cells #[.int .i64 n, .slice none 0 0] 40) := ⟨_, rfl⟩
  have hWB : Below w.heap.size w W := by rw [hWd]; exact (((Below.refl _ _).alloc (Nat.le_refl _) _).alloc (by simp) _).alloc (by simp; omega) _
  have hWz : W.heap.size = w.heap.size + 3 := by rw [hWd]; simp
  have b1 : W.heap[w.heap.size + 1]? = some (.cells #[.int .i64 0, .slice none 0 0] 40 (0, 0)) := by
    rw [hWd, Below.heap_alloc _ _ _ (by simp)]
    have := heap_alloc_last (w.alloc (.cells #[.int .i64 n, .slice a m cap] 58)) (.cells #[.int .i64 0, .slice none 0 0] 40)
    rw [show (w.alloc (.cells #[.int .i64 n, .slice a m cap] 58)).heap.size = w.heap.size + 1 by simp] at this
    exact this
  have b2 : W.heap[w.heap.size + 1 + 1]? = some (.cells #[.int .i64 n, .slice none 0 0] 40 (0, 0)) := by
    rw [hWd]
    have := heap_alloc_last ((w.alloc (.cells #[.int .i64 n, .slice a m cap] 58)).alloc (.cells #[.int .i64 0, .slice none 0 0] 40)) (.cells #[.int .i64 n, .slice none 0 0] 40)
    rw [show ((w.alloc (.cells #[.int .i64 n, .slice a m cap] 58)).alloc (.cells #[.int .i64 0, .slice none 0 0] 40)).heap.size = w.heap.size + 1 + 1 by simp] at this
    exact this
  rw [← hWd]
  clear hWd
  refine (HTo.out W hWB).mono ?_
  rintro e w1 ⟨rfl, hi1, hb1⟩
  have d1 := (hb1.block (w.heap.size + 1) (by omega)).trans b1
  have d2 := (hb1.block (w.heap.size + 1 + 1) (by omega)).trans b2
  have c10 := cell_of_row w1 _ 0 _ _ _ d1
  have c11 := cell_of_row w1 _ 1 _ _ _ d1
  have c20 := cell_of_row w1 _ 0 _ _ _ d2
  have c21 := cell_of_row w1 _ 1 _ _ _ d2
  have z10 := frozen_of_row w1 _ 0 _ _ d1
  have z11 := frozen_of_row w1 _ 1 _ _ d1
  have z21 := frozen_of_row w1 _ 1 _ _ d2
  simp at c10 c11 c20 c21
  have HI := hideT hi1
  have HB1 := hideT (below2 hWB hb1)
  have HG := hideT (show W.heap.size = w.heap.size + 3 from hWz)
  clear hb1 hi1 d1 d2 b1 b2 hWB
  generalize W.heap.size = g at HI HG hWz ⊢
  go_wp2_with fail
  refine bodyPost_ret (v := .agg #[.int .i64 n, .slice (some ⟨w.heap.size + 3, 0, none⟩) m m]) (by simp [results, Tryd.results58, go_sem, c10, c11]) rfl ⟨w.heap.size + 3, rfl, by omega, ?_, ((HB1.out.setCell (by simp; omega) _).setCell (by simp) _).setCell (by simp) _⟩
  have hh := HI.out
  rw [HG.out] at hh
  exact ((hh.set_other _ _ (by simp)).set_other _ _ (by simp)).set_other _ _ (by simp)

set_option maxRecDepth 100000 in
set_option maxHeartbeats 2000000 in
theorem eqR_any (n : Int) (a b : Option Addr) (cap cap' : Nat) (l : List ByteArray) (w : World) (B : Nat) (ha : Strs w B a l) (hb : Strs w B b l) (hB : B ≤ w.heap.size) (hn : l.length ≤ 1048576) :
    Calls Tryd.prog 59 #[.agg #[.int .i64 n, .slice a l.length cap], .agg #[.int .i64 n, .slice b l.length cap']] w fun e w' => e = .returned (.bool true) ∧ Below w.heap.size w w' := by
  have HEq := hideT (fun (W : World) (hW : Below w.heap.size w W) => eq_any a b cap cap' l W B (ha.after hW hB) (hb.after hW hB) hn)
  clear ha hb
  have hnn : (n == n) = true := by simp
  generalize l.length = m at hn HEq ⊢
  go_enter Tryd.func59, Tryd.ntmps59
  go_wp2_with fail
  refine (HEq.out _ (((Below.refl _ _).alloc (Nat.le_refl _) _).alloc (by simp) _)).mono ?_
  rintro e w1 ⟨rfl, hb1⟩
  have HB1 := hideT (below2 (((Below.refl _ _).alloc (Nat.le_refl _) _).alloc (by simp) _) hb1)
  clear hb1
  go_wp2_with fail
  go_ret
  exact ⟨rfl, HB1.out⟩
end Go.Proofs.YteiicafjjcnioaaDoor.St

namespace Go.Proofs.YteiicafjjcnioaaDoor.fnExactRangeRoot
open Go.RowKit
open Go.Proofs.YteiicafjjcnioaaDoor.St
open Go.Proofs.YteiicafjjcnioaaDoor.Tr
open Go.Proofs.YteiicafjjcnioaaDoor.Sh (Vars)

set_option maxRecDepth 100000 in
set_option maxHeartbeats 8000000 in
theorem walk_in (n : Int) (l : List ByteArray) (a : Option Addr) (cap : Nat) (w : World) (hs : Strs w w.heap.size a l) (hn : l.length ≤ maxLen) (hz : ∀ s ∈ l, s.size ≤ maxLen) (hV : Vars w) :
    Calls Tryd.prog 17 #[.agg #[.int .i64 n, .slice a l.length cap]] w fun e w' => e = .returned (.bool true) ∧ Below w.heap.size w w' := by
  have HS := hideT hs
  have HV := hideT hV
  have hv2 := hV.two
  have HZ := hideT (fun W (hW : Below w.heap.size w W) => szR_any n a cap l W ((HS.out.below hW).mono hW.size) hn hz)
  have HTo := hideT (fun W (hW : Below w.heap.size w W) (h : l.length ≤ 1048576) => toR_any n a cap l W ((HS.out.below hW).mono hW.size) h)
  have HEq := hideT (fun (x y : Option Addr) (W : World) (h : l.length ≤ 1048576) hx hy => eqR_any n x y l.length l.length l W W.heap.size hx hy (Nat.le_refl _) h)
  have HI := hideT (fun (x : Option Addr) (W : World) (h : l.length ≤ 1048576) hx hV => root_impl n l x l.length W.heap.size W h (Nat.le_refl _) hx (Nat.le_refl _) hV)
  have HP := hideT (fun (x : Option Addr) (W : World) (h : l.length ≤ 1048576) hx => root_spec n l x l.length W.heap.size W h hx (Nat.le_refl _))
  clear hs hV hz
  unfold maxLen at hn
  generalize l.length = m at hn HZ HTo HEq HI HP ⊢
  obtain ⟨q, hq⟩ : ∃ q, q = rootR n l := ⟨_, rfl⟩
  rw [← hq] at HI HP
  clear hq
  go_enter Tryd.func17, Tryd.ntmps17
  go_wp2_with fail
  refine (HZ.out _ ((Below.refl _ _).alloc (Nat.le_refl _) _)).mono ?_
  rintro e w1 ⟨r, rfl, hr, hb1⟩
  have B1 := hideT (below2 ((Below.refl _ _).alloc (Nat.le_refl _) _) hb1)
  have a0 : w1.cell? ⟨w.heap.size, 0, none⟩ = some (.int .i64 n) := (hb1.cell (p := ⟨w.heap.size, 0, none⟩) (by simp)).trans (by simp)
  have a1 : w1.cell? ⟨w.heap.size, 1, none⟩ = some (.slice a m cap) := (hb1.cell (p := ⟨w.heap.size, 1, none⟩) (by simp)).trans (by simp)
  have hz1 : w.heap.size < w1.heap.size := World.block_lt_of_cell? w1 _ a0
  clear hb1
  by_cases hneg : r < 0
  · go_wp2_with fail
    go_ret
    exact ⟨rfl, B1.out⟩
  · have HN := hideT (hr (by omega)).1
    clear hr
    go_wp2_with fail
    refine (HTo.out w1 B1.out HN.out).mono ?_
    rintro e w2 ⟨g2, rfl, hg2, hi2, hb2⟩
    have S2 := hideT (hi2.strs hi2.lt)
    have B2 := hideT (below2 B1.out hb2)
    have a0 := (hb2.cell (p := ⟨w.heap.size, 0, none⟩) hz1).trans a0
    have a1 := (hb2.cell (p := ⟨w.heap.size, 1, none⟩) hz1).trans a1
    have hz2 := Nat.lt_of_lt_of_le hz1 hb2.size
    clear hi2 hb2
    go_wp2_with fail
    refine (HP.out (some ⟨g2, 0, none⟩) w2 HN.out S2.out).mono ?_
    rintro e w3 ⟨rfl, hb3⟩
    have B3 := hideT (below2 B2.out hb3)
    have a0 := (hb3.cell (p := ⟨w.heap.size, 0, none⟩) hz2).trans a0
    have a1 := (hb3.cell (p := ⟨w.heap.size, 1, none⟩) hz2).trans a1
    have hz3 := Nat.lt_of_lt_of_le hz2 hb3.size
    clear hb3
    go_wp2_with fail
    refine (HTo.out w3 B3.out HN.out).mono ?_
    rintro e w4 ⟨g4, rfl, hg4, hi4, hb4⟩
    have B4 := hideT (below2 B3.out hb4)
    have a0 := (hb4.cell (p := ⟨w.heap.size, 0, none⟩) hz3).trans a0
    have a1 := (hb4.cell (p := ⟨w.heap.size, 1, none⟩) hz3).trans a1
    have hz4 := Nat.lt_of_lt_of_le hz3 hb4.size
    have hg4' := hi4.lt
    have I4 := hideT hi4
    clear hb4 hi4
    go_wp2_with fail
    obtain ⟨w5, hw5⟩ : ∃ w5, w5 = w4.alloc (.cells #[.int .i64 n, .slice (some ⟨g4, 0, none⟩) m m] 40) := ⟨_, rfl⟩
    have hb45 : Below w4.heap.size w4 w5 := by rw [hw5]; exact (Below.refl _ _).alloc (Nat.le_refl _) _
    have x0 : w5.cell? ⟨w4.heap.size, 0, none⟩ = some (.int .i64 n) := by rw [hw5]; simp
    have x1 : w5.cell? ⟨w4.heap.size, 1, none⟩ = some (.slice (some ⟨g4, 0, none⟩) m m) := by rw [hw5]; simp
    have hz5 : w4.heap.size < w5.heap.size := World.block_lt_of_cell? w5 _ x0
    have B5 := hideT (below2 B4.out hb45)
    have I5 := hideT (I4.out.below hb45 hg4')
    have a0 := (hb45.cell (p := ⟨w.heap.size, 0, none⟩) hz4).trans a0
    have a1 := (hb45.cell (p := ⟨w.heap.size, 1, none⟩) hz4).trans a1
    rw [← hw5]
    clear hw5 hb45
    generalize w4.heap.size = gx at x0 x1 hz5 hg4' hz4 ⊢
    refine (HI.out (some ⟨g4, 0, none⟩) w5 HN.out (I5.out.strs I5.out.lt) (HV.out.below B5.out hv2)).mono ?_
    rintro e w6 ⟨rfl, hb6⟩
    have B6 := hideT (below2 B5.out hb6)
    have I6 := hideT (I5.out.below hb6 I5.out.lt)
    have a0 := (hb6.cell (p := ⟨w.heap.size, 0, none⟩) (by simp; omega)).trans a0
    have a1 := (hb6.cell (p := ⟨w.heap.size, 1, none⟩) (by simp; omega)).trans a1
    have x0 := (hb6.cell (p := ⟨gx, 0, none⟩) hz5).trans x0
    have x1 := (hb6.cell (p := ⟨gx, 1, none⟩) hz5).trans x1
    have hz6 := Nat.lt_of_lt_of_le hz5 hb6.size
    have HX0 := hideT x0
    have HX1 := hideT x1
    clear hb6
    go_wp2_with fail
    go_region_with (first | (go_at_call 58; (with_reducible refine (HTo.out _ ?_ HN.out).mono ?_); (· exact B6.out.drew); rintro e w7 ⟨g7, rfl, hg7, hi7, hb7⟩; have B7 := hideT (below2 B6.out (show Below w6.heap.size w6 w7 from ⟨hb7.os, hb7.tape, hb7.output, hb7.size, hb7.block⟩)); have I7 := hideT hi7; have J7 := hideT (I6.out.below (show Below w6.heap.size w6 w7 from ⟨hb7.os, hb7.tape, hb7.output, hb7.size, hb7.block⟩) I6.out.lt); have y0 := ((show Below w6.heap.size w6 w7 from ⟨hb7.os, hb7.tape, hb7.output, hb7.size, hb7.block⟩).cell (p := ⟨gx, 0, none⟩) hz6).trans HX0.out; have y1 := ((show Below w6.heap.size w6 w7 from ⟨hb7.os, hb7.tape, hb7.output, hb7.size, hb7.block⟩).cell (p := ⟨gx, 1, none⟩) hz6).trans HX1.out; clear hi7 hb7) | (go_at_call 59; (with_reducible refine (HEq.out (some ⟨g4, 0, none⟩) (some ⟨g7, 0, none⟩) w7 HN.out ?_ ?_).mono ?_); (· exact J7.out.strs J7.out.lt); (· exact I7.out.strs I7.out.lt); rintro e w8 ⟨rfl, hb8⟩; have B8 := hideT (below2 B7.out hb8); clear hb8))
    all_goals (try go_wp2_with fail)
    all_goals go_ret
    all_goals exact ⟨rfl, B8.out⟩

theorem walk (n : Int) (a0 : Option Addr) (len0 cap0 : Nat) (z0 : List ByteArray) {w : World} (w0 : IsStrs w a0 len0 cap0 z0) (hV : Vars w) :
    Calls Tryd.prog 17 #[.agg #[.int .i64 n, .slice a0 len0 cap0]] w fun e w' => e = .returned (.bool true) ∧ Below w.heap.size w w' := by
  obtain ⟨l, rfl, hs, hm, _, hz⟩ := strs_of w0
  exact walk_in n l a0 cap0 w hs hm hz hV
end Go.Proofs.YteiicafjjcnioaaDoor.fnExactRangeRoot
