/- ListBytes: what both sides answer. -/
import Derived.Test.YtkfipamdfpknpaaDoorLsBytes
import Derived.BigRegion
namespace Go.Proofs.YtkfipamdfpknpaaDoor.Ls
open Go.RowKit
open Go.Proofs.YtkfipamdfpknpaaDoor.Pk (cat numsL join_any nums_any numsL_le)
open Go.Proofs.YtkfipamdfpknpaaDoor.St (Strs)
open Go.Proofs.YtkfipamdfpknpaaDoor.In (Ints)
open Go.Proofs.YtkfipamdfpknpaaDoor.Nu (putS putT put_spec text_spec text_impl putS_size)

theorem bytesL_no {z b : Int} {r : ByteArray} (h : rightB z b r = false) : bytesL z b r = ⟨#[]⟩ := by
  unfold bytesL
  rw [if_neg (by rw [h]; decide)]
theorem bytesL_yes {z b : Int} {r : ByteArray} (h : rightB z b r = true) : bytesL z b r = bytesA z b r := by
  unfold bytesL
  rw [if_pos h]

set_option maxRecDepth 100000 in
set_option maxHeartbeats 1000000 in
theorem bytes_spec (z b : Int) (r : ByteArray) (w : World) :
    Calls Tryd.prog 22 #[lV z b r] w fun e w' => e = .returned (.string (bytesL z b r)) ∧ Below w.heap.size w w' := by
  have HR := hideL (fun W => right_spec z b r W)
  have HX : Hid ((w.alloc (.cells #[.int .i64 z, .int .i64 b, .string r] 23)).heap[w.heap.size]? = some (.cells #[.int .i64 z, .int .i64 b, .string r] 23 (0, 0))) := heap_alloc_new w _
  have HA : Hid (Below w.heap.size w (w.alloc (.cells #[.int .i64 z, .int .i64 b, .string r] 23))) := (Below.refl _ _).alloc (Nat.le_refl _) _
  cases hc : rightB z b r with
  | false =>
    have HF := hideL (bytesL_no hc)
    rw [hc] at HR
    rw [HF.out]
    clear HF hc
    unfold lV at HR ⊢
    go_enter Tryd.func22, Tryd.ntmps22
    go_wp2_with fail
    refine (HR.out _).mono ?_
    rintro e w1 ⟨rfl, hb1⟩
    have HB1 := hideL (lowL HA.out hb1)
    clear hb1
    go_wp2_with fail
    go_ret
    exact ⟨rfl, HB1.out⟩
  | true =>
    have HF := hideL (bytesL_yes hc)
    have HL := hideL (fun W => l07_spec z b r W hc)
    rw [hc] at HR
    rw [HF.out]
    clear HF hc
    generalize bytesA z b r = R at HL ⊢
    unfold lV at HR HL ⊢
    go_enter Tryd.func22, Tryd.ntmps22
    go_wp2_with fail
    refine (HR.out _).mono ?_
    rintro e w1 ⟨rfl, hb1⟩
    have X1 := hideL (blkL HX.out hb1)
    have HB1 := hideL (lowL HA.out hb1)
    clear hb1 HX HA
    obtain ⟨c0, c1, c2⟩ := cells3 X1.out
    go_wp2_with fail
    refine (HL.out _).mono ?_
    rintro e w2 ⟨rfl, hb2⟩
    have HB2 := hideL (lowL HB1.out hb2)
    clear hb2 c0 c1 c2
    go_wp2_with fail
    go_ret
    exact ⟨rfl, HB2.out⟩

set_option maxRecDepth 100000 in
set_option maxHeartbeats 4000000 in
theorem bytes_impl (z b : Int) (r : ByteArray) (w : World) :
    Calls Tryd.prog 40 #[lV z b r] w fun e w' => e = .returned (.string (bytesL z b r)) ∧ Below w.heap.size w w' := by
  have HR := hideL (fun W => right_impl z b r W)
  have HX : Hid ((w.alloc (.cells #[.int .i64 z, .int .i64 b, .string r] 23)).heap[w.heap.size]? = some (.cells #[.int .i64 z, .int .i64 b, .string r] 23 (0, 0))) := heap_alloc_new w _
  have HA : Hid (Below w.heap.size w (w.alloc (.cells #[.int .i64 z, .int .i64 b, .string r] 23))) := (Below.refl _ _).alloc (Nat.le_refl _) _
  cases hc : rightB z b r with
  | false =>
    have HF := hideL (bytesL_no hc)
    rw [hc] at HR
    rw [HF.out]
    clear HF hc
    unfold lV at HR ⊢
    go_enter Tryd.func40, Tryd.ntmps40
    go_wp2_with fail
    refine (HR.out _).mono ?_
    rintro e w1 ⟨rfl, hb1⟩
    have HB1 := hideL (lowL HA.out hb1)
    clear hb1
    go_wp2_with fail
    go_ret
    exact ⟨rfl, HB1.out⟩
  | true =>
    have h := rightB_yes hc
    have HF := hideL (bytesL_yes hc)
    have HN : Hid (∀ W g, W.heap[g]? = some (.cells #[.int .i64 z, .int .i64 b] 2 (0, 0)) → Calls Tryd.prog 59 #[.slice (some ⟨g, 0, none⟩) 2 2] W fun e w' => e = .returned (.string ⟨(numsL [z, b]).toArray⟩) ∧ Below W.heap.size W w') := fun W g hh =>
      nums_any [z, b] _ 2 2 W (ints_twoL hh) rfl (by decide) (by intro x hx; simp at hx; omega)
    have HT := hideL (fun W => text_impl r W (by unfold maxLen; omega))
    have p3 := putT_size r h.2.2.2.2.1
    have HJ : Hid (∀ W g, W.heap[g]? = some (.cells #[.string ⟨(numsL [z, b]).toArray⟩, .string (putT r)] 9 (0, 0)) → Calls Tryd.prog 53 #[.slice (some ⟨g, 0, none⟩) 2 2] W fun e w' => e = .returned (.string (bytesA z b r)) ∧ Below W.heap.size W w') := fun W g hh => by
      have := join_any [⟨(numsL [z, b]).toArray⟩, putT r] _ 2 2 W (strs_twoL hh) rfl (by decide) (by
        unfold cat
        simp
        have := numsL_le [z, b]
        simp at this
        omega)
      rw [cat_bytes] at this
      exact this
    rw [hc] at HR
    rw [HF.out]
    clear HF hc h p3
    generalize bytesA z b r = R at HJ ⊢
    generalize (⟨(numsL [z, b]).toArray⟩ : ByteArray) = P1 at HJ HN
    generalize putT r = P2 at HJ HT
    unfold lV at HR ⊢
    go_enter Tryd.func40, Tryd.ntmps40
    go_wp2_with fail
    refine (HR.out _).mono ?_
    rintro e w1 ⟨rfl, hb1⟩
    have X1 := hideL (blkL HX.out hb1)
    have HB1 := hideL (lowL HA.out hb1)
    clear hb1 HX HA HR
    generalize w.heap.size = gx at X1 ⊢
    have CB : Hid (∀ W, Below w1.heap.size w1 W → W.cell? ⟨gx, 0, none⟩ = some (.int .i64 z) ∧ W.cell? ⟨gx, 1, none⟩ = some (.int .i64 b) ∧ W.cell? ⟨gx, 2, none⟩ = some (.string r)) := fun W h => cells3 (blkL X1.out h)
    go_upto_region 3 with fail
    have hS0 := CB.out _ (lm_drew (Below.refl w1.heap.size w1))
    go_region_held3 (fun W => W.cell? ⟨gx, 0, none⟩ = some (.int .i64 z) ∧ W.cell? ⟨gx, 1, none⟩ = some (.int .i64 b) ∧ W.cell? ⟨gx, 2, none⟩ = some (.string r))
      (first | assumption | exact CB.out _ (by repeat (first | exact LJ.out | exact LN.out | exact LT.out | exact Below.refl _ _ | refine lm_alloc ?_ _ | refine lm_drew ?_)))
      (first
        | (go_at_call 59; (with_reducible refine (HN.out _ _ ?_).mono ?_); (· first | exact heap_alloc_new _ _ | exact blkL (heap_alloc_new _ _) KT.out); rintro e wn ⟨rfl, hbn⟩; have LN := hideL (lowL (w0 := w1) (by repeat (first | exact LT.out | exact Below.refl _ _ | refine lm_alloc ?_ _ | refine lm_drew ?_)) hbn); clear hbn)
        | (go_at_call 60; (with_reducible refine (HT.out _).mono ?_); rintro e wt ⟨rfl, hbt⟩; have KT := hideL hbt; have LT := hideL (lowL (w0 := w1) (by repeat (first | exact LN.out | exact Below.refl _ _ | refine lm_alloc ?_ _ | refine lm_drew ?_)) hbt); clear hbt)
        | (go_at_call 53; (with_reducible refine (HJ.out _ _ ?_).mono ?_); (· exact heap_alloc_new _ _); rintro e wj ⟨rfl, hbj⟩; have LJ := hideL (lowL (w0 := w1) (by repeat (first | exact LN.out | exact LT.out | exact Below.refl _ _ | refine lm_alloc ?_ _ | refine lm_drew ?_)) hbj); clear hbj))
    all_goals (try go_wp2_with fail)
    all_goals (go_ret; exact ⟨rfl, HB1.out.trans (LJ.out.mono HB1.out.size)⟩)
end Go.Proofs.YtkfipamdfpknpaaDoor.Ls
