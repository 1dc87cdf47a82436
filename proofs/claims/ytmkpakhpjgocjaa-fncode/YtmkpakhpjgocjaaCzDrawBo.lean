/- What is drawn for BitsOf: two numbers. -/
import Derived.Test.YtmkpakhpjgocjaaCz24
namespace Go.Proofs.Ytmkpakhpjgocjaa.Dr
open Go.RowKit

def v4 (a b c d : Int) (j : Nat) : Int := if j = 0 then a else if j = 1 then b else if j = 2 then c else d
theorem new4 (W : World) (a b c d : Int) (t : TypeId) (j : Nat) (hj : j < 4) : (W.alloc (.cells #[.int .i64 a, .int .i64 b, .int .i64 c, .int .i64 d] t)).cell? ⟨W.heap.size, j, none⟩ = some (.int .i64 (v4 a b c d j)) := by
  rw [cell_of_row _ _ j _ _ _ (heap_alloc_last W _)]
  obtain rfl | rfl | rfl | rfl : j = 0 ∨ j = 1 ∨ j = 2 ∨ j = 3 := by omega
  all_goals rfl
theorem pick4 (a b c d : Int) (j : Nat) (h : j < [Value.int .i64 a, .int .i64 b, .int .i64 c, .int .i64 d].length) : [Value.int .i64 a, .int .i64 b, .int .i64 c, .int .i64 d][j] = .int .i64 (v4 a b c d j) := by
  obtain rfl | rfl | rfl | rfl : j = 0 ∨ j = 1 ∨ j = 2 ∨ j = 3 := by simp at h; omega
  all_goals rfl
theorem src_alloc {W : World} {B : Nat} {a : Option Addr} {len cap : Nat} (h : Src W B a len cap) (o : Obj) : Src (W.alloc o) B a len cap := h.below ((Below.refl _ _).alloc (Nat.le_refl _) o)
theorem src_drew {W : World} {B : Nat} {a : Option Addr} {len cap : Nat} (h : Src W B a len cap) : Src W.drew B a len cap := h
theorem only_cell {B : Nat} {W W' : World} (h : Only B W W') (g j : Nat) (hg : g ≠ B) : W'.cell? ⟨g, j, none⟩ = W.cell? ⟨g, j, none⟩ := World.cell?_of_block (w := W) (a := ⟨g, j, none⟩) (h.2.2.2.2 g hg)
theorem cell_under {W : World} (o : Obj) (g j : Nat) (hg : g < W.heap.size) : (W.alloc o).cell? ⟨g, j, none⟩ = W.cell? ⟨g, j, none⟩ := World.cell?_alloc_lt _ _ _ hg

theorem low_alloc {B : Nat} {w W : World} (hB : w.heap.size = B) (h : Below B w W) (o : Obj) : Below B w (W.alloc o) := by
  subst hB
  exact h.alloc h.size o
theorem low_drew {B : Nat} {w W : World} (h : Below B w W) : Below B w W.drew := h.drew

set_option maxRecDepth 100000 in
set_option maxHeartbeats 40000000 in
theorem drawBits_any (a : Option Addr) (len cap : Nat) (w : World) (hl : len ≤ 1048576) (hr : Row w w.heap.size a len) :
    Calls Try.prog 11 #[.slice a len cap] w fun e w' => ∃ x y : Int, e = .returned (.tuple #[.int .i64 x, .int .i64 y]) ∧ Below w.heap.size w w' := by
  have HR := hideD hr
  clear hr
  go_enter Try.func11, Try.ntmps11
  go_wp2_with fail
  refine (source_any a len cap _ hl HR.out).mono ?_
  rintro e w1 ⟨rfl, hs1, hb1, hz⟩
  have HS1 := hideD hs1
  have HB1 := hideD hb1
  have z1 := hb1.size
  clear hs1 hb1 hz
  go_wp2_with fail
  refine (one_any w.heap.size a len cap 5 _ hl (by omega) HS1.out).mono ?_
  rintro e w2 ⟨r2, rfl, hs2, ho2⟩
  have S2 := hideD hs2
  have B2 := hideD (ho2.below HB1.out (Nat.le_refl _))
  have hB2 := hs2.lt
  clear hs2 ho2 HS1 HB1
  cases r2 with
  | false =>
    go_wp2_with fail
    refine (n_any w.heap.size a len cap 40 _ hl (by omega) S2.out).mono ?_
    rintro e w3 ⟨r3, rfl, _, _, hs3, ho3⟩
    have S3 := hideD hs3
    have B3 := hideD (ho3.below B2.out (Nat.le_refl _))
    clear hs3 ho3
    go_wp2_with fail
    refine (n_any w.heap.size a len cap 8 _ hl (by omega) S3.out).mono ?_
    rintro e w4 ⟨r4, rfl, _, _, hs4, ho4⟩
    have B4 := hideD (ho4.below B3.out (Nat.le_refl _))
    clear hs4 ho4
    go_wp2_with fail
    go_ret2
    exact ⟨_, _, rfl, B4.out⟩
  | true =>
    generalize hBe : w.heap.size = B at S2 B2 hB2 ⊢
    have HBE := hideD hBe
    clear hBe
    have N1 := fun (W : World) (j : Nat) (hj : j < 4) => new4 W (-1) 0 1048575 1048576 2 j hj
    have N2 := fun (W : World) (j : Nat) (hj : j < 4) => new4 W 0 1 20 21 2 j hj
    have U1 := fun (W : World) (o : Obj) (g j : Nat) (hg : g < W.heap.size) => cell_under (W := W) o g j hg
    have e0 : w2.heap.size ≠ B := by omega
    have e1 : w2.heap.size + 1 ≠ B := by omega
    go_wp2_with fail
    go_region_with (first | (go_at_call 71; have hX := C3; (with_reducible refine (n_any B a len cap 4 _ hl (by omega) ?_).mono ?_); (· repeat (first | exact S2.out | exact C3.out | refine src_alloc ?_ _ | refine src_drew ?_)); rintro e w4 ⟨r4, rfl, q0, q1, hs4, ho4⟩; obtain ⟨j4, rfl⟩ := Int.eq_ofNat_of_zero_le q0; have hj4 : j4 < 4 := (by omega); have hi4 : (j4 : Int) < 4 := (by omega); have C4 := hideD hs4; have k4 := only_cell ho4; have z4 := ho4.2.2.2.1; have L4 := hideD (Only.below (C := B) (w0 := w) (by repeat (first | exact L3.out | refine low_alloc HBE.out ?_ _ | refine low_drew ?_)) ho4 (Nat.le_refl _)); clear hs4 ho4) | (go_at_call 71; (with_reducible refine (n_any B a len cap 4 _ hl (by omega) ?_).mono ?_); (· repeat (first | exact S2.out | refine src_alloc ?_ _ | refine src_drew ?_)); rintro e w3 ⟨r3, rfl, q0, q1, hs3, ho3⟩; obtain ⟨j3, rfl⟩ := Int.eq_ofNat_of_zero_le q0; have hj3 : j3 < 4 := (by omega); have hi3 : (j3 : Int) < 4 := (by omega); have C3 := hideD hs3; have k3 := only_cell ho3; have z3 := ho3.2.2.2.1; have L3 := hideD (Only.below (C := B) (w0 := w) (by repeat (first | exact B2.out | refine low_alloc HBE.out ?_ _ | refine low_drew ?_)) ho3 (Nat.le_refl _)); clear hs3 ho3))
    all_goals (try go_wp2_with fail)
    all_goals go_ret2
    all_goals (first | exact ⟨_, _, rfl, by rw [HBE.out]; repeat (first | exact L4.out | refine low_alloc HBE.out ?_ _ | refine low_drew ?_)⟩ | (simp only [pick4]; exact ⟨_, _, rfl, by rw [HBE.out]; repeat (first | exact L4.out | refine low_alloc HBE.out ?_ _ | refine low_drew ?_)⟩))
end Go.Proofs.Ytmkpakhpjgocjaa.Dr
