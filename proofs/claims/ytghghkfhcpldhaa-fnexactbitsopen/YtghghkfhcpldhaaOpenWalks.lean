/- The walks of both BitsOpen, and of the law. -/
import Derived.Test.YtghghkfhcpldhaaPackWalks
namespace Go.Proofs.Ytghghkfhcpldhaa.Bi
open Go.RowKit
open Go.Proofs.Ytghghkfhcpldhaa.Sh
open Go.Proofs.Ytghghkfhcpldhaa.Nu (ret_strJ)

set_option maxRecDepth 100000 in
set_option maxHeartbeats 2000000 in
theorem open_yes (t : ByteArray) (m : Nat) (w : World) (ht : ¬ 8000 < t.size) (hm : m ≤ 8 * t.size) :
    Calls Try.prog 17 #[.string t, .int .i64 m] w fun e w' => e = .returned (.string (openV t m)) ∧ Below w.heap.size w w' := by
  obtain ⟨i0, hi, hz0, hz1, hz2⟩ := info_parts Nu.Try.infoJ5
  have hd8 : decide (8000 < (t.size : Int)) = false := decide_eq_false (by omega)
  have hd0 : decide ((m : Int) < 0) = false := decide_eq_false (by omega)
  have hd1 : decide (8 * (t.size : Int) < m) = false := decide_eq_false (by omega)
  go_enter Try.func17, Try.ntmps17
  go_wp2_with (at_make; refine wpList_make_full _ rfl (.tmp 21) (.tmp 21) 44 rfl w.heap.size 5 i0 (.int .u8 0) 1 Try.underlying44 hi hz0 hz1 .i64 .i64 _ _ m rfl rfl (by simp) (by simp) (by rw [hz2]; omega) (by unfold maxLen; omega) (Nat.le_refl _) ?_; intro w1 hown1 hgrow1; have HR := hideB (made_row hown1); have HB := hideB ((Below.refl w.heap.size w).grown hgrow1 (Nat.le_refl _) (by simp)); clear hown1 hgrow1)
  go_loopw [24] (fun i wr => ∃ k : Nat, i = .int .i64 k ∧ k ≤ m ∧ IsB wr w.heap.size 5 .u8 m (fun j => (opK t k j : Nat)) ∧ Below w.heap.size w wr) (fun i _ => m - (intOf i).toNat)
  case atStart => exact ⟨0, rfl, by omega, IsB.congr HR.out (fun j hj => by rw [opK_zero]; rfl), HB.out⟩
  case round =>
    obtain ⟨k, rfl, hk, hr, hbel⟩ := hrel
    have HR2 := hideB hr
    by_cases hlt : k < m
    · obtain ⟨q, hq⟩ : ∃ q : Nat, q = k / 8 := ⟨_, rfl⟩
      have hqi : (k : Int) / 8 = q := by omega
      have hqt : q < t.size := by omega
      obtain ⟨y, b0, hy⟩ := byte_at t q hqt
      obtain ⟨s, hs⟩ : ∃ s : Nat, s = 7 - k % 8 := ⟨_, rfl⟩
      have hsi : (7 : Int) - (k : Int) % 8 = s := by omega
      have ce := hr.cell (j := k) (by omega)
      have cf := hr.frozen k
      have hy2 : (y.toNat : Int) < 256 := by have := y.toNat_lt; omega
      have HO := hideB (bitOf_any y.toNat s wr (by omega))
      have HV : Hid (((bitB y.toNat s : Nat) : Int) = ((bitB (bt t (k / 8)) (7 - k % 8) : Nat) : Int)) := by
        unfold Hid
        rw [hy, hs, hq]
      clear hr hy hs hq
      go_wp2_with fail
      refine HO.out.mono ?_
      rintro e w' ⟨rfl, hw⟩
      subst w'
      go_wp2_with fail
      go_roundw
      case rel =>
        exact ⟨k + 1, by go_num, by omega, IsB.congr (HR2.out.set k _) (fun j hj => opK_next t k j _ HV.out), hbel.setCell (Nat.le_refl _) _⟩
      case measure => simp [intOf]; omega
    · obtain rfl : k = m := by omega
      have hcv := hr.str (P := Try.prog) (src := 44) (dst := 9) k k (Nat.le_refl _) (fun j _ => opK_lt t k j) Try.underlying44 Try.underlying5 Try.underlying9
      rw [opK_all] at hcv
      clear hr
      go_wp2_with fail
      go_ret
      exact ⟨rfl, hbel⟩

set_option maxHeartbeats 1000000 in
theorem open_impl (t : ByteArray) (m : Int) (w : World) (ht : t.size ≤ 1048576) :
    Calls Try.prog 17 #[.string t, .int .i64 m] w fun e w' => e = .returned (.string (openR t m)) ∧ Below w.heap.size w w' := by
  by_cases h : 8000 < t.size
  · have HE := hideB (openR_no t m (Or.inl h))
    go_enter Try.func17, Try.ntmps17
    go_wp2_with fail
    go_ret
    exact ⟨ret_strJ HE.out.symm, Below.refl _ _⟩
  · have hd8 : decide (8000 < (t.size : Int)) = false := decide_eq_false (by omega)
    by_cases h0 : m < 0
    · have HE := hideB (openR_no t m (Or.inr (Or.inl h0)))
      go_enter Try.func17, Try.ntmps17
      go_wp2_with fail
      go_ret
      exact ⟨ret_strJ HE.out.symm, Below.refl _ _⟩
    · by_cases h1 : 8 * (t.size : Int) < m
      · have HE := hideB (openR_no t m (Or.inr (Or.inr h1)))
        have hd0 : decide (m < 0) = false := decide_eq_false (by omega)
        go_enter Try.func17, Try.ntmps17
        go_wp2_with fail
        go_ret
        exact ⟨ret_strJ HE.out.symm, Below.refl _ _⟩
      · obtain ⟨k, rfl⟩ : ∃ k : Nat, m = k := ⟨m.toNat, by omega⟩
        rw [openR_yes t k h (by omega)]
        exact open_yes t k w h (by omega)

theorem lit8 (W : World) (t : TypeId) (r : Nat) (h : r < 8) : ∃ p : Int, (W.alloc (Obj.cells #[Value.int IntKind.i64 128, Value.int IntKind.i64 64, Value.int IntKind.i64 32, Value.int IntKind.i64 16, Value.int IntKind.i64 8, Value.int IntKind.i64 4, Value.int IntKind.i64 2, Value.int IntKind.i64 1] t)).cell? ⟨W.heap.size, r, none⟩ = some (.int .i64 p) ∧ p = (2 : Int) ^ (7 - r) ∧ 0 < p ∧ p ≤ 128 := by
  have h8 : r = 0 ∨ r = 1 ∨ r = 2 ∨ r = 3 ∨ r = 4 ∨ r = 5 ∨ r = 6 ∨ r = 7 := by omega
  rcases h8 with rfl | rfl | rfl | rfl | rfl | rfl | rfl | rfl
  · exact ⟨128, (cell_of_row _ _ 0 _ t (0, 0) (heap_alloc_last W _)).trans rfl, by decide, by decide⟩
  · exact ⟨64, (cell_of_row _ _ 1 _ t (0, 0) (heap_alloc_last W _)).trans rfl, by decide, by decide⟩
  · exact ⟨32, (cell_of_row _ _ 2 _ t (0, 0) (heap_alloc_last W _)).trans rfl, by decide, by decide⟩
  · exact ⟨16, (cell_of_row _ _ 3 _ t (0, 0) (heap_alloc_last W _)).trans rfl, by decide, by decide⟩
  · exact ⟨8, (cell_of_row _ _ 4 _ t (0, 0) (heap_alloc_last W _)).trans rfl, by decide, by decide⟩
  · exact ⟨4, (cell_of_row _ _ 5 _ t (0, 0) (heap_alloc_last W _)).trans rfl, by decide, by decide⟩
  · exact ⟨2, (cell_of_row _ _ 6 _ t (0, 0) (heap_alloc_last W _)).trans rfl, by decide, by decide⟩
  · exact ⟨1, (cell_of_row _ _ 7 _ t (0, 0) (heap_alloc_last W _)).trans rfl, by decide, by decide⟩
theorem quo_pow (y s : Nat) (v : Int) (hv : v = (2 : Int) ^ s) : (48 + (y : Int) / v % 2) % 256 = ((bitB y s : Nat) : Int) := by
  subst hv
  rw [div_cast]
  unfold bitB
  omega

set_option maxRecDepth 100000 in
set_option maxHeartbeats 4000000 in
theorem openS_yes (t : ByteArray) (m : Nat) (w : World) (ht : ¬ 8000 < t.size) (hm : m ≤ 8 * t.size) :
    Calls Try.prog 16 #[.string t, .int .i64 m] w fun e w' => e = .returned (.string (openV t m)) ∧ Below w.heap.size w w' := by
  obtain ⟨i0, hi, hz0, hz1, hz2⟩ := info_parts Nu.Try.infoJ5
  have hd8 : decide (8000 < (t.size : Int)) = false := decide_eq_false (by omega)
  have HI := hideB (is_yes m 0 (8 * (t.size : Int)) w (by omega) (by omega))
  go_enter Try.func16, Try.ntmps16
  go_wp2_with fail
  refine HI.out.mono ?_
  rintro e w' ⟨rfl, hw⟩
  subst w'
  go_wp2_with (at_make; refine wpList_make_full _ rfl (.tmp 19) (.tmp 19) 44 rfl w.heap.size 5 i0 (.int .u8 0) 1 Try.underlying44 hi hz0 hz1 .i64 .i64 _ _ m rfl rfl (by simp) (by simp) (by rw [hz2]; omega) (by unfold maxLen; omega) (Nat.le_refl _) ?_; intro w1 hown1 hgrow1; have HR := hideB (made_row hown1); have HB := hideB ((Below.refl w.heap.size w).grown hgrow1 (Nat.le_refl _) (by simp)); clear hown1 hgrow1)
  go_loopw [6] (fun i wr => ∃ k : Nat, i = .int .i64 k ∧ k ≤ m ∧ IsB wr w.heap.size 5 .u8 m (fun j => (opK t k j : Nat)) ∧ Below w.heap.size w wr) (fun i _ => m - (intOf i).toNat)
  case atStart => exact ⟨0, rfl, by omega, IsB.congr HR.out (fun j hj => by rw [opK_zero]; rfl), HB.out⟩
  case round =>
    obtain ⟨k, rfl, hk, hr, hbel⟩ := hrel
    have HR2 := hideB hr
    have GB := hideB hbel
    have hsz := hbel.size
    clear hbel
    by_cases hlt : k < m
    · obtain ⟨q, hq⟩ : ∃ q : Nat, q = k / 8 := ⟨_, rfl⟩
      have hqi : (k : Int) / 8 = q := by omega
      have hqt : q < t.size := by omega
      obtain ⟨y, b0, hy⟩ := byte_at t q hqt
      have HY := hideB hy
      have HQ := hideB hq
      have ce : ∀ o, (wr.alloc o).cell? ⟨w.heap.size, k, none⟩ = some (.int .u8 ((opK t k k : Nat) : Int)) := fun o => (hr.alloc o).cell (by omega)
      have cf : ∀ o, (wr.alloc o).frozen? ⟨w.heap.size, k, none⟩ = false := fun o => (hr.alloc o).frozen k
      clear hr hy hq
      have hy2 : (y.toNat : Int) < 256 := by have := y.toNat_lt; omega
      obtain ⟨r, hr8⟩ : ∃ r : Nat, r = k % 8 := ⟨_, rfl⟩
      have hri : (k : Int) % 8 = r := by omega
      have hrl : r < 8 := by omega
      obtain ⟨p, hp, hp2, hp3⟩ := lit8 wr 2 r hrl
      have HV : Hid ((48 + (y.toNat : Int) / p % 2) % 256 = ((bitB (bt t (k / 8)) (7 - k % 8) : Nat) : Int)) := by
        unfold Hid
        rw [quo_pow y.toNat (7 - r) p hp2, ← hr8, HY.out, HQ.out]
      have HV2 : Hid (48 + (y.toNat : Int) / p % 2 = ((bitB (bt t (k / 8)) (7 - k % 8) : Nat) : Int)) := by
        unfold Hid
        rw [← HV.out]
        omega
      have hpz : (p == 0) = false := by rw [beq_eq_false_iff_ne]; omega
      have hq0 : 0 ≤ (y.toNat : Int) / p := Int.ediv_nonneg (by omega) (by omega)
      have hq1 : (y.toNat : Int) / p < 256 := Int.lt_of_le_of_lt (Int.ediv_le_self _ (by omega)) hy2
      clear hp2 hr8
      go_wp2_with fail
      go_region
      all_goals (try go_wp2_with fail)
      all_goals go_roundw
      case rel => exact ⟨k + 1, by go_num, by omega, IsB.congr (IsB.set (IsB.of_heap (w' := World.drew (World.alloc wr _)) (IsB.alloc HR2.out _) rfl) k _) (fun j hj => opK_next t k j _ (by first | exact HV.out | exact HV2.out)), Below.setCell (Below.drew (GB.out.alloc hsz _)) (Nat.le_refl _) _⟩
      case measure => simp [intOf]; omega
    · obtain rfl : k = m := by omega
      have hcv := hr.str (P := Try.prog) (src := 44) (dst := 9) k k (Nat.le_refl _) (fun j _ => opK_lt t k j) Try.underlying44 Try.underlying5 Try.underlying9
      rw [opK_all] at hcv
      clear hr
      go_wp2_with fail
      go_ret
      exact ⟨rfl, GB.out⟩

set_option maxHeartbeats 1000000 in
theorem open_spec (t : ByteArray) (m : Int) (w : World) (ht : t.size ≤ 1048576) :
    Calls Try.prog 16 #[.string t, .int .i64 m] w fun e w' => e = .returned (.string (openR t m)) ∧ Below w.heap.size w w' := by
  by_cases h : 8000 < t.size
  · have HE := hideB (openR_no t m (Or.inl h))
    go_enter Try.func16, Try.ntmps16
    go_wp2_with fail
    go_ret
    exact ⟨ret_strJ HE.out.symm, Below.refl _ _⟩
  · have hd8 : decide (8000 < (t.size : Int)) = false := decide_eq_false (by omega)
    by_cases h0 : m < 0 ∨ 8 * (t.size : Int) < m
    · have HE := hideB (openR_no t m (Or.inr h0))
      have HI := hideB (is_no m 0 (8 * (t.size : Int)) w h0)
      clear h0
      go_enter Try.func16, Try.ntmps16
      go_wp2_with fail
      refine HI.out.mono ?_
      rintro e w' ⟨rfl, hw⟩
      subst w'
      go_wp2_with fail
      go_ret
      exact ⟨ret_strJ HE.out.symm, Below.refl _ _⟩
    · obtain ⟨k, rfl⟩ : ∃ k : Nat, m = k := ⟨m.toNat, by omega⟩
      rw [openR_yes t k h (by omega)]
      exact openS_yes t k w h (by omega)
end Go.Proofs.Ytghghkfhcpldhaa.Bi

namespace Go.Proofs.Ytghghkfhcpldhaa.fnExactBitsOpen
open Go.RowKit
open Go.Proofs.Ytghghkfhcpldhaa.Bi

set_option maxHeartbeats 400000 in
theorem walk (t : ByteArray) (ht : t.size ≤ maxLen) (m : Int) (_ : (Lit.int .i64 m).wf = true) (w : World) :
    Calls Try.prog 5 #[.string t, .int .i64 m] w fun e w' => e = .returned (.bool true) ∧ Below w.heap.size w w' := by
  unfold maxLen at ht
  by_cases h : 1048576 < t.size
  · go_enter Try.func5, Try.ntmps5
    go_wp2_with fail
    go_ret
    exact ⟨rfl, Below.refl _ _⟩
  · go_enter Try.func5, Try.ntmps5
    go_wp2_with fail
    refine (open_spec _ _ _ (by omega)).mono ?_
    rintro e wa ⟨rfl, hb1⟩
    go_wp2_with fail
    refine (open_impl _ _ _ (by omega)).mono ?_
    rintro e wb ⟨rfl, hb2⟩
    go_wp2_with fail
    go_ret
    exact ⟨rfl, hb1.trans (hb2.mono hb1.size)⟩
end Go.Proofs.Ytghghkfhcpldhaa.fnExactBitsOpen
