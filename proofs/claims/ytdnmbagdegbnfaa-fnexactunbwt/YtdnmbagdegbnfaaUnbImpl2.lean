/- What the program's Unbwt answers: the whole. -/
import Derived.Test.YtdnmbagdegbnfaaUnbImpl
namespace Go.Proofs.Ytdnmbagdegbnfaa.So
open Go.RowKit Go.Sort Go.Proofs

def IsX (w : World) (g : Nat) : Prop := w.heap[g]? = some (.cells #[.string ⟨#[]⟩, .int .i64 0, .int .i64 0] 51 (0, 0))
theorem IsX.cells {w : World} {g : Nat} (h : IsX w g) : w.cell? ⟨g, 0, none⟩ = some (.string ⟨#[]⟩) ∧ w.cell? ⟨g, 1, none⟩ = some (.int .i64 0) ∧ w.cell? ⟨g, 2, none⟩ = some (.int .i64 0) ∧ (∀ j, w.frozen? ⟨g, j, none⟩ = false) := by
  refine ⟨?_, ?_, ?_, fun j => frozen_of_row w g j _ _ h⟩
  · rw [cell_of_row w g 0 _ _ (0, 0) h]; rfl
  · rw [cell_of_row w g 1 _ _ (0, 0) h]; rfl
  · rw [cell_of_row w g 2 _ _ (0, 0) h]; rfl
theorem bwtC_no {t : ByteArray} (h : t.size ≤ 48) : bwtC t = 0 := by
  unfold bwtC
  rw [if_neg (by omega), if_neg (by omega)]

set_option maxRecDepth 100000 in
set_option maxHeartbeats 1000000 in
theorem unbwt_impl (t : ByteArray) (a : Int) (w : World) (hn : t.size ≤ 1048576) :
    Calls Try.prog 45 #[.string t, .int .i64 a] w fun e w' => e = .returned (unR t a) ∧ Below w.heap.size w w' := by
  by_cases hbig : 8000 < t.size
  · have HV := hideO (unR_big (a := a) hbig)
    go_enter Try.func45, Try.ntmps45
    go_wp2_with fail
    refine bodyPost_ret (v := tOut ⟨#[]⟩ 0 2) (by simp [results, tOut, Try.results45, go_sem]) rfl ⟨by rw [HV.out], ?_⟩
    exact (Below.refl _ _).alloc (Nat.le_refl _) _
  · have hbig' : ¬ (8000 : Int) < (t.size : Int) := by omega
    by_cases hlong : 48 < t.size
    · have HV := hideO (unR_form (a := a) hbig (Or.inl hlong))
      have hd : decide ((48 : Int) < (t.size : Int)) = true := decide_eq_true (by omega)
      go_enter Try.func45, Try.ntmps45
      go_wp2_with fail
      refine bodyPost_ret (v := tOut ⟨#[]⟩ 0 1) (by simp [results, tOut, Try.results45, go_sem]) rfl ⟨by rw [HV.out], ?_⟩
      exact (Below.refl _ _).alloc (Nat.le_refl _) _
    · have hlong' : ¬ (48 : Int) < (t.size : Int) := by omega
      have hd : decide ((48 : Int) < (t.size : Int)) = false := decide_eq_false (by omega)
      obtain ⟨w0, hw0⟩ : ∃ w0, w0 = w.alloc (.cells #[.string ⟨#[]⟩, .int .i64 0, .int .i64 0] 51) := ⟨_, rfl⟩
      have z0 : w0.heap.size = w.heap.size + 1 := by rw [hw0]; simp
      have HR0 : Hid (IsX w0 w.heap.size) := by unfold Hid; rw [hw0]; exact heap_alloc_last w _
      have HB0 : Hid (Below w.heap.size w w0) := by unfold Hid; rw [hw0]; exact (Below.refl _ _).alloc (Nat.le_refl _) _
      have HIP := hideO (isPlace_impl t a w0)
      by_cases hbad : a < 0 ∨ ((t.size : Int) ≤ a ∧ 0 < a)
      · have HV := hideO (unR_form hbig (Or.inr hbad))
        rw [decide_eq_true hbad] at HIP
        go_enter Try.func45, Try.ntmps45
        go_wp2_with fail
        rw [← hw0]
        refine HIP.out.mono ?_
        rintro e w' ⟨rfl, hw⟩
        subst w'
        subst hw0
        go_wp2_with fail
        refine bodyPost_ret (v := tOut ⟨#[]⟩ 0 1) (by simp [results, tOut, Try.results45, go_sem]) rfl ⟨by rw [HV.out], ?_⟩
        exact (Below.refl _ _).alloc (Nat.le_refl _) _
      · rw [decide_eq_false hbad] at HIP
        obtain ⟨m, rfl⟩ : ∃ m : Nat, a = m := ⟨a.toNat, by omega⟩
        have HTB := hideO (turnBack_impl t m w0 hn (by omega))
        have hbz := backT_size t m
        have HBW := hideO (fun W => bwt_impl (backT t m) W (by omega))
        rw [bwtC_no (show (backT t m).size ≤ 48 by omega)] at HBW
        have HY := hideO (fun h => unR_yes (t := t) (a := m) (by omega) (by omega) h)
        have HNO := hideO (fun h => unR_no (t := t) (a := m) (by omega) (by omega) h)
        obtain ⟨b, hb⟩ : ∃ b, b = backT t m := ⟨_, rfl⟩
        obtain ⟨bt', hbt⟩ : ∃ bt', bt' = bwtT b := ⟨_, rfl⟩
        obtain ⟨ba, hba⟩ : ∃ ba, ba = bwtA b := ⟨_, rfl⟩
        rw [← hb] at HTB HBW HY HNO
        rw [← hbt, ← hba] at HBW HY HNO
        unfold sOut at HBW
        clear hb hbt hba hbz hbad
        by_cases hq : bt' = t ∧ ba = m
        · obtain ⟨rfl, rfl⟩ := hq
          have HV := hideO (HY.out ⟨rfl, rfl⟩)
          clear HY HNO
          go_enter Try.func45, Try.ntmps45
          go_wp2_with fail
          rw [← hw0]
          refine HIP.out.mono ?_
          rintro e w' ⟨rfl, hw⟩
          subst w'
          go_wp2_with fail
          rw [← hw0]
          refine HTB.out.mono ?_
          rintro e w1 ⟨rfl, hb1⟩
          have HR1 : Hid (IsX w1 w.heap.size) := (hb1.block w.heap.size (by omega)).trans HR0.out
          have HB1 := hideO (HB0.out.trans (hb1.mono (by omega)))
          have z1 := hb1.size
          clear hb1
          go_wp2_with fail
          refine (HBW.out w1).mono ?_
          rintro e w2 ⟨rfl, hb2⟩
          have hr2 : IsX w2 w.heap.size := (hb2.block w.heap.size (by omega)).trans HR1.out
          have GB := hideO (HB1.out.trans (hb2.mono (by omega)))
          have z2 := hb2.size
          obtain ⟨c0, c1, c2, f0⟩ := hr2.cells
          clear hr2 hb2
          go_wp2_with fail
          refine bodyPost_ret (v := tOut b 0 0) (by simp [results, tOut, Try.results45, go_sem, c0, c1, c2]) rfl ⟨by rw [HV.out], ?_⟩
          exact ((GB.out.setCell (Nat.le_refl _) _).setCell (Nat.le_refl _) _).setCell (Nat.le_refl _) _
        · have HV := hideO (HNO.out hq)
          by_cases hqt : bt' = t
          · subst hqt
            have hqm : ((ba : Int) == (m : Int)) = false := beq_eq_false_iff_ne.2 (fun e => hq ⟨rfl, by omega⟩)
            clear hq
            clear HY HNO
            go_enter Try.func45, Try.ntmps45
            go_wp2_with fail
            rw [← hw0]
            refine HIP.out.mono ?_
            rintro e w' ⟨rfl, hw⟩
            subst w'
            go_wp2_with fail
            rw [← hw0]
            refine HTB.out.mono ?_
            rintro e w1 ⟨rfl, hb1⟩
            have HR1 : Hid (IsX w1 w.heap.size) := (hb1.block w.heap.size (by omega)).trans HR0.out
            have HB1 := hideO (HB0.out.trans (hb1.mono (by omega)))
            have z1 := hb1.size
            clear hb1
            go_wp2_with fail
            refine (HBW.out w1).mono ?_
            rintro e w2 ⟨rfl, hb2⟩
            have hr2 : IsX w2 w.heap.size := (hb2.block w.heap.size (by omega)).trans HR1.out
            have GB := hideO (HB1.out.trans (hb2.mono (by omega)))
            have z2 := hb2.size
            obtain ⟨c0, c1, c2, f0⟩ := hr2.cells
            clear hr2 hb2
            go_wp2_with fail
            refine bodyPost_ret (v := tOut ⟨#[]⟩ 0 3) (by simp [results, tOut, Try.results45, go_sem, c0, c1, c2]) rfl ⟨by rw [HV.out], ?_⟩
            exact ((GB.out.setCell (Nat.le_refl _) _).setCell (Nat.le_refl _) _).setCell (Nat.le_refl _) _
          · have hqe : (bt'.toList == t.toList) = false := by rw [list_eq_iff]; exact decide_eq_false hqt
            clear hq hqt
            clear HY HNO
            go_enter Try.func45, Try.ntmps45
            go_wp2_with fail
            rw [← hw0]
            refine HIP.out.mono ?_
            rintro e w' ⟨rfl, hw⟩
            subst w'
            go_wp2_with fail
            rw [← hw0]
            refine HTB.out.mono ?_
            rintro e w1 ⟨rfl, hb1⟩
            have HR1 : Hid (IsX w1 w.heap.size) := (hb1.block w.heap.size (by omega)).trans HR0.out
            have HB1 := hideO (HB0.out.trans (hb1.mono (by omega)))
            have z1 := hb1.size
            clear hb1
            go_wp2_with fail
            refine (HBW.out w1).mono ?_
            rintro e w2 ⟨rfl, hb2⟩
            have hr2 : IsX w2 w.heap.size := (hb2.block w.heap.size (by omega)).trans HR1.out
            have GB := hideO (HB1.out.trans (hb2.mono (by omega)))
            have z2 := hb2.size
            obtain ⟨c0, c1, c2, f0⟩ := hr2.cells
            clear hr2 hb2
            go_wp2_with fail
            refine bodyPost_ret (v := tOut ⟨#[]⟩ 0 3) (by simp [results, tOut, Try.results45, go_sem, c0, c1, c2]) rfl ⟨by rw [HV.out], ?_⟩
            exact ((GB.out.setCell (Nat.le_refl _) _).setCell (Nat.le_refl _) _).setCell (Nat.le_refl _) _
end Go.Proofs.Ytdnmbagdegbnfaa.So
