/- The walks of the two functions that open a sealed text: each answers Se.unsealV of its text, and writes nothing that was there. -/
import Derived.Test.YtkkoeaohmfdlgaaSealWalks
import Derived.Test.YtkkoeaohmfdlgaaCutWalks
import Derived.Deep.RegionWith
namespace Go.Proofs.Ytkkoeaohmfdlgaa.Se
open Go.RowKit
open Go.Proofs.Ytkkoeaohmfdlgaa.Nu (bv arr_string ret_strJ hideJ)

/-- a TextOut as the model holds it -/
def outV (t : ByteArray) (at_ code : Int) : Value := .agg #[.string t, .int .i64 at_, .int .i64 code]

def unsealV (s : ByteArray) : Value :=
  if 8000 < s.size then outV ⟨#[]⟩ 0 2 else if s.size < 4 then outV ⟨#[]⟩ 0 4
  else if sealV (s.extract 0 (s.size - 4)) = s then outV (s.extract 0 (s.size - 4)) 0 0 else outV ⟨#[]⟩ 0 5

theorem bcell {W w1 : World} (hb : Below W.heap.size W w1) : (∀ b o, b < W.heap.size → w1.cell? ⟨b, o, none⟩ = W.cell? ⟨b, o, none⟩) ∧ (∀ b o, b < W.heap.size → w1.frozen? ⟨b, o, none⟩ = W.frozen? ⟨b, o, none⟩) :=
  ⟨fun b o h => hb.cell (p := ⟨b, o, none⟩) h, fun b o h => hb.frozen (p := ⟨b, o, none⟩) h⟩

/-- a new block, then what two callees leave -/
theorem below3 {w wa wb : World} {o : Obj} (h1 : Below (w.alloc o).heap.size (w.alloc o) wa) (h2 : Below (w.alloc o).heap.size wa wb) : Below w.heap.size w wb :=
  ((Below.refl w.heap.size w).alloc (Nat.le_refl _) o).trans ((h1.trans h2).mono (by simp))

theorem below2d {w wa : World} {o : Obj} (h1 : Below (w.alloc o).drew.heap.size (w.alloc o).drew wa) : Below w.heap.size w wa :=
  ((Below.refl w.heap.size w).alloc (Nat.le_refl _) o).drew.trans (h1.mono (by simp))

theorem list_eq_iff (a b : ByteArray) : (a.toList == b.toList) = decide (a = b) := by
  by_cases h : a = b
  · rw [h]; simp
  · rw [decide_eq_false h, beq_eq_false_iff_ne]
    intro e
    apply h
    rw [ByteArray.toList_eq, ByteArray.toList_eq] at e
    have e2 : a.data = b.data := by rw [← Array.toArray_toList (xs := a.data), e, Array.toArray_toList]
    cases a; cases b; simpa using e2

theorem unsealV_yes (s t : ByteArray) (h1 : ¬ 8000 < s.size) (h2 : ¬ s.size < 4) (ht : t = s.extract 0 (s.size - 4)) (h : sealV t = s) : unsealV s = outV t 0 0 := by
  unfold unsealV
  rw [if_neg h1, if_neg h2, ← ht, if_pos h]

theorem unsealV_no (s t : ByteArray) (h1 : ¬ 8000 < s.size) (h2 : ¬ s.size < 4) (ht : t = s.extract 0 (s.size - 4)) (h : ¬ sealV t = s) : unsealV s = outV ⟨#[]⟩ 0 5 := by
  unfold unsealV
  rw [if_neg h1, if_neg h2, ← ht, if_neg h]

set_option maxRecDepth 100000 in
set_option maxHeartbeats 1000000 in
theorem unseal_impl (s : ByteArray) (w : World) (hs : s.size ≤ maxLen) :
    Calls Try.prog 8 #[.string s] w fun e w' => e = .returned (unsealV s) ∧ Below w.heap.size w w' := by
  unfold maxLen at hs
  by_cases h1 : 8000 < s.size
  · have HV := hideJ (show unsealV s = outV ⟨#[]⟩ 0 2 by unfold unsealV; rw [if_pos h1])
    go_enter Try.func8, Try.ntmps8
    go_wp2
    refine bodyPost_ret (v := outV ⟨#[]⟩ 0 2) (by simp [results, outV, Try.results8, go_sem]) rfl ⟨by rw [HV.out], ?_⟩
    exact (Below.refl _ _).alloc (Nat.le_refl _) _
  · by_cases h2 : s.size < 4
    · have HV := hideJ (show unsealV s = outV ⟨#[]⟩ 0 4 by unfold unsealV; rw [if_neg h1, if_pos h2])
      go_enter Try.func8, Try.ntmps8
      go_wp2
      refine bodyPost_ret (v := outV ⟨#[]⟩ 0 4) (by simp [results, outV, Try.results8, go_sem]) rfl ⟨by rw [HV.out], ?_⟩
      exact (Below.refl _ _).alloc (Nat.le_refl _) _
    · obtain ⟨t, ht⟩ : ∃ t, t = s.extract 0 (s.size - 4) := ⟨_, rfl⟩
      have hts : t.size ≤ 7996 := by rw [ht]; simp; omega
      have HT := hideJ ht
      by_cases hq : sealV t = s
      · have HV := hideJ (unsealV_yes s t h1 h2 ht hq)
        have hB : ((sealV t).toList == s.toList) = true := by rw [list_eq_iff]; exact decide_eq_true hq
        clear ht hq
        go_enter Try.func8, Try.ntmps8
        go_wp2_with fail
        rw [show ((s.size : Int) - 4) = ((s.size - 4 : Nat) : Int) from by omega]
        refine (Nu.cut_any s 0 (s.size - 4) _ (by omega) (by omega) (by omega)).mono ?_
        rw [← HT.out]
        rintro e wa ⟨rfl, hb1⟩
        obtain ⟨hc1, hf1⟩ := bcell hb1
        have hz1 : w.heap.size + 1 ≤ wa.heap.size := by have := hb1.size; simpa using this
        go_wp2_with fail
        refine (seal_impl t _ (by unfold maxLen; omega)).mono ?_
        rintro e wb ⟨rfl, hb2⟩
        obtain ⟨hc2, hf2⟩ := bcell hb2
        have hz2 : wa.heap.size ≤ wb.heap.size := hb2.size
        have hlt : w.heap.size < wa.heap.size := by omega
        go_wp2
        refine bodyPost_ret (v := outV t 0 0) (by simp [results, outV, Try.results8, go_sem, hc2, hc1, hlt]) rfl ⟨by rw [HV.out], ?_⟩
        exact ((below3 hb1 (hb2.mono (by simpa using hz1))).setCell (Nat.le_refl _) _ |>.setCell (Nat.le_refl _) _).setCell (Nat.le_refl _) _
      · have HV := hideJ (unsealV_no s t h1 h2 ht hq)
        have hB : ((sealV t).toList == s.toList) = false := by rw [list_eq_iff]; exact decide_eq_false hq
        clear ht hq
        go_enter Try.func8, Try.ntmps8
        go_wp2_with fail
        rw [show ((s.size : Int) - 4) = ((s.size - 4 : Nat) : Int) from by omega]
        refine (Nu.cut_any s 0 (s.size - 4) _ (by omega) (by omega) (by omega)).mono ?_
        rw [← HT.out]
        rintro e wa ⟨rfl, hb1⟩
        obtain ⟨hc1, hf1⟩ := bcell hb1
        have hz1 : w.heap.size + 1 ≤ wa.heap.size := by have := hb1.size; simpa using this
        go_wp2_with fail
        refine (seal_impl t _ (by unfold maxLen; omega)).mono ?_
        rintro e wb ⟨rfl, hb2⟩
        obtain ⟨hc2, hf2⟩ := bcell hb2
        have hz2 : wa.heap.size ≤ wb.heap.size := hb2.size
        have hlt : w.heap.size < wa.heap.size := by omega
        go_wp2
        refine bodyPost_ret (v := outV ⟨#[]⟩ 0 5) (by simp [results, outV, Try.results8, go_sem, hc2, hc1, hlt]) rfl ⟨by rw [HV.out], ?_⟩
        exact ((below3 hb1 (hb2.mono (by simpa using hz1))).setCell (Nat.le_refl _) _ |>.setCell (Nat.le_refl _) _).setCell (Nat.le_refl _) _
end Go.Proofs.Ytkkoeaohmfdlgaa.Se
