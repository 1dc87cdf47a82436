/- What the specification's Unbwt answers. -/
import Derived.Test.YtmkpakhpjgocjaaFs44
namespace Go.Proofs.Ytmkpakhpjgocjaa.So
open Go.RowKit Go.Sort Go.Proofs

set_option maxRecDepth 100000 in
set_option maxHeartbeats 8000000 in
theorem unbwt_spec (t : ByteArray) (a : Int) (w : World) (hn : t.size ≤ 1048576) :
    Calls Try.prog 45 #[.string t, .int .i64 a] w fun e w' => e = .returned (unR t a) ∧ Below w.heap.size w w' := by
  by_cases hbig : 8000 < t.size
  · have HV := hideO (unR_big (a := a) hbig)
    go_enter Try.func45, Try.ntmps45
    go_wp2_with fail
    refine bodyPost_ret (v := tOut ⟨#[]⟩ 0 2) (by simp [results, tOut, Try.results45, go_sem]) rfl ⟨by rw [HV.out], ?_⟩
    exact (Below.refl _ _).alloc (Nat.le_refl _) _
  · have hbig' : ¬ (8000 : Int) < (t.size : Int) := by omega
    obtain ⟨w0, hw0⟩ : ∃ w0, w0 = w.alloc (.cells #[.string ⟨#[]⟩, .int .i64 0, .int .i64 0] 51) := ⟨_, rfl⟩
    have z0 : w0.heap.size = w.heap.size + 1 := by rw [hw0]; simp
    have HR0 : Hid (IsX w0 w.heap.size) := by unfold Hid; rw [hw0]; exact heap_alloc_last w _
    have HB0 : Hid (Below w.heap.size w w0) := by unfold Hid; rw [hw0]; exact (Below.refl _ _).alloc (Nat.le_refl _) _
    have HIP := hideO (block_spec t w0 hn)
    by_cases hlong : 48 < t.size
    · have HV := hideO (unR_form (a := a) hbig (Or.inl hlong))
      rw [decide_eq_false (by omega : ¬ t.size ≤ 48)] at HIP
      go_enter Try.func45, Try.ntmps45
      go_wp2_with fail
      rw [← hw0]
      refine HIP.out.mono ?_
      rintro e w' ⟨rfl, hw⟩
      subst w'
      subst hw0
      go_wp2_with fail
      refine bodyPost_ret (v := tOut ⟨#[]⟩ 0 1) (by simp [results, tOut, Try.results45, go_sem]) rfl ⟨by rw [HV.out], ?_⟩
      exact (Below.refl _ _).alloc (Nat.le_refl _) _
    · rw [decide_eq_true (by omega : t.size ≤ 48)] at HIP
      by_cases hbad : a < 0 ∨ ((t.size : Int) ≤ a ∧ 0 < a)
      · have HV := hideO (unR_form hbig (Or.inr hbad))
        by_cases hneg : a < 0
        · have hd1 : decide (a < 0) = true := decide_eq_true hneg
          clear hbad
          go_enter Try.func45, Try.ntmps45
          go_wp2_with fail
          rw [← hw0]
          refine HIP.out.mono ?_
          rintro e w' ⟨rfl, hw⟩
          subst w'
          subst hw0
          go_wp2_with fail
          refine bodyPost_ret (v := tOut ⟨#[]⟩ 0 1) (by simp [results, tOut, Try.results45, go_sem]) rfl ⟨by rw [HV.out], ?_⟩
          exact (Below.refl _ _).alloc (Nat.le_refl _) _
        · have hd1 : decide (a < 0) = false := decide_eq_false hneg
          have hd2 : decide ((t.size : Int) ≤ a) = true := decide_eq_true (by omega)
          have hd3 : decide (0 < a) = true := decide_eq_true (by omega)
          have hd4 : decide (a < (t.size : Int)) = false := decide_eq_false (by omega)
          have p2 : (t.size : Int) ≤ a := by omega
          have p3 : 0 < a := by omega
          clear hbad
          go_enter Try.func45, Try.ntmps45
          go_wp2_with fail
          rw [← hw0]
          refine HIP.out.mono ?_
          rintro e w' ⟨rfl, hw⟩
          subst w'
          subst hw0
          go_wp2_with fail
          refine bodyPost_ret (v := tOut ⟨#[]⟩ 0 1) (by simp [results, tOut, Try.results45, go_sem]) rfl ⟨by rw [HV.out], ?_⟩
          exact (Below.refl _ _).alloc (Nat.le_refl _) _
      · obtain ⟨m, rfl⟩ : ∃ m : Nat, a = m := ⟨a.toNat, by omega⟩
        have hd1 : decide ((m : Int) < 0) = false := decide_eq_false (by omega)
        have HTB := hideO (l05Back_spec t m w0 (by omega) (by omega))
        have hbz := backT_size t m
        have HBW := hideO (fun W => l05Bwt_spec (backT t m) W (by omega))
        have HY := hideO (fun h => unR_yes (t := t) (a := m) (by omega) (by omega) h)
        have HNO := hideO (fun h => unR_no (t := t) (a := m) (by omega) (by omega) h)
        obtain ⟨b, hb⟩ : ∃ b, b = backT t m := ⟨_, rfl⟩
        obtain ⟨bt', hbt⟩ : ∃ bt', bt' = bwtT b := ⟨_, rfl⟩
        obtain ⟨ba, hba⟩ : ∃ ba, ba = bwtA b := ⟨_, rfl⟩
        rw [← hb] at HTB HBW HY HNO
        rw [← hbt, ← hba] at HBW HY HNO
        have hcase : (¬ t.size ≤ m) ∨ (t.size ≤ m ∧ ¬ 0 < m) := by omega
        clear hb hbt hba hbz hbad
        have HALL : Hid (∀ w1 : World, Below w0.heap.size w0 w1 → ∀ w2 : World, Below w1.heap.size w1 w2 → IsX w2 w.heap.size ∧ Below w.heap.size w w2 ∧ w.heap.size < w2.heap.size) := fun w1 h1 w2 h2 => by
          have z1 := h1.size
          have z2 := h2.size
          exact ⟨(h2.block w.heap.size (by omega)).trans ((h1.block w.heap.size (by omega)).trans HR0.out), (HB0.out.trans (h1.mono (by omega))).trans (h2.mono (by omega)), by omega⟩
        by_cases hq : bt' = t ∧ ba = m
        · obtain ⟨rfl, rfl⟩ := hq
          have HV := hideO (HY.out ⟨rfl, rfl⟩)
          clear HY HNO
          rcases hcase with p2 | ⟨p2, p3⟩
          · have q2 : ¬ (bt'.size : Int) ≤ (ba : Int) := by omega
            have d2 : decide (bt'.size ≤ ba) = false := decide_eq_false p2
            have d2z : decide ((bt'.size : Int) ≤ (ba : Int)) = false := decide_eq_false q2
            go_enter Try.func45, Try.ntmps45
            go_wp2_with fail
            rw [← hw0]
            refine HIP.out.mono ?_
            rintro e w' ⟨rfl, hw⟩
            subst w'
            go_wp2_with fail
            rw [← hw0]
            refine HTB.out.mono ?_
            rintro e w1 ⟨rfl, hb1⟩
            have HB1 := hideO hb1
            clear hb1
            go_wp2_with fail
            refine (HBW.out w1).mono ?_
            rintro e w2 ⟨rfl, hb2⟩
            obtain ⟨hr2, hg2, z2⟩ := HALL.out w1 HB1.out w2 hb2
            have GB := hideO hg2
            obtain ⟨c0, c1, c2, f0⟩ := hr2.cells
            clear hr2 hb2 hg2
            go_wp2_with fail
            refine bodyPost_ret (v := tOut b 0 0) (by simp [results, tOut, Try.results45, go_sem, c0, c1, c2]) rfl ⟨by rw [HV.out], ?_⟩
            exact ((GB.out.setCell (Nat.le_refl _) _).setCell (Nat.le_refl _) _).setCell (Nat.le_refl _) _
          · have q2 : (bt'.size : Int) ≤ (ba : Int) := by omega
            have d2 : decide (bt'.size ≤ ba) = true := decide_eq_true p2
            have d2z : decide ((bt'.size : Int) ≤ (ba : Int)) = true := decide_eq_true q2
            have q3 : ¬ (0 : Int) < (ba : Int) := by omega
            have d3 : decide (0 < ba) = false := decide_eq_false p3
            have d3z : decide ((0 : Int) < (ba : Int)) = false := decide_eq_false q3
            go_enter Try.func45, Try.ntmps45
            go_wp2_with fail
            rw [← hw0]
            refine HIP.out.mono ?_
            rintro e w' ⟨rfl, hw⟩
            subst w'
            go_wp2_with fail
            rw [← hw0]
            refine HTB.out.mono ?_
            rintro e w1 ⟨rfl, hb1⟩
            have HB1 := hideO hb1
            clear hb1
            go_wp2_with fail
            refine (HBW.out w1).mono ?_
            rintro e w2 ⟨rfl, hb2⟩
            obtain ⟨hr2, hg2, z2⟩ := HALL.out w1 HB1.out w2 hb2
            have GB := hideO hg2
            obtain ⟨c0, c1, c2, f0⟩ := hr2.cells
            clear hr2 hb2 hg2
            go_wp2_with fail
            refine bodyPost_ret (v := tOut b 0 0) (by simp [results, tOut, Try.results45, go_sem, c0, c1, c2]) rfl ⟨by rw [HV.out], ?_⟩
            exact ((GB.out.setCell (Nat.le_refl _) _).setCell (Nat.le_refl _) _).setCell (Nat.le_refl _) _
        · have HV := hideO (HNO.out hq)
          by_cases hqt : bt' = t
          · subst hqt
            have hqm : ((ba : Int) != (m : Int)) = true := bne_iff_ne.2 (fun e => hq ⟨rfl, by omega⟩)
            clear hq HY HNO
            rcases hcase with p2 | ⟨p2, p3⟩
            · have q2 : ¬ (bt'.size : Int) ≤ (m : Int) := by omega
              have d2 : decide (bt'.size ≤ m) = false := decide_eq_false p2
              have d2z : decide ((bt'.size : Int) ≤ (m : Int)) = false := decide_eq_false q2
              go_enter Try.func45, Try.ntmps45
              go_wp2_with fail
              rw [← hw0]
              refine HIP.out.mono ?_
              rintro e w' ⟨rfl, hw⟩
              subst w'
              go_wp2_with fail
              rw [← hw0]
              refine HTB.out.mono ?_
              rintro e w1 ⟨rfl, hb1⟩
              have HB1 := hideO hb1
              clear hb1
              go_wp2_with fail
              refine (HBW.out w1).mono ?_
              rintro e w2 ⟨rfl, hb2⟩
              obtain ⟨hr2, hg2, z2⟩ := HALL.out w1 HB1.out w2 hb2
              have GB := hideO hg2
              obtain ⟨c0, c1, c2, f0⟩ := hr2.cells
              clear hr2 hb2 hg2
              go_wp2_with fail
              refine bodyPost_ret (v := tOut ⟨#[]⟩ 0 3) (by simp [results, tOut, Try.results45, go_sem, c0, c1, c2]) rfl ⟨by rw [HV.out], ?_⟩
              exact ((GB.out.setCell (Nat.le_refl _) _).setCell (Nat.le_refl _) _).setCell (Nat.le_refl _) _
            · have q2 : (bt'.size : Int) ≤ (m : Int) := by omega
              have d2 : decide (bt'.size ≤ m) = true := decide_eq_true p2
              have d2z : decide ((bt'.size : Int) ≤ (m : Int)) = true := decide_eq_true q2
              have q3 : ¬ (0 : Int) < (m : Int) := by omega
              have d3 : decide (0 < m) = false := decide_eq_false p3
              have d3z : decide ((0 : Int) < (m : Int)) = false := decide_eq_false q3
              go_enter Try.func45, Try.ntmps45
              go_wp2_with fail
              rw [← hw0]
              refine HIP.out.mono ?_
              rintro e w' ⟨rfl, hw⟩
              subst w'
              go_wp2_with fail
              rw [← hw0]
              refine HTB.out.mono ?_
              rintro e w1 ⟨rfl, hb1⟩
              have HB1 := hideO hb1
              clear hb1
              go_wp2_with fail
              refine (HBW.out w1).mono ?_
              rintro e w2 ⟨rfl, hb2⟩
              obtain ⟨hr2, hg2, z2⟩ := HALL.out w1 HB1.out w2 hb2
              have GB := hideO hg2
              obtain ⟨c0, c1, c2, f0⟩ := hr2.cells
              clear hr2 hb2 hg2
              go_wp2_with fail
              refine bodyPost_ret (v := tOut ⟨#[]⟩ 0 3) (by simp [results, tOut, Try.results45, go_sem, c0, c1, c2]) rfl ⟨by rw [HV.out], ?_⟩
              exact ((GB.out.setCell (Nat.le_refl _) _).setCell (Nat.le_refl _) _).setCell (Nat.le_refl _) _
          · have hqe : (bt'.toList == t.toList) = false := by rw [list_eq_iff]; exact decide_eq_false hqt
            clear hq hqt HY HNO
            rcases hcase with p2 | ⟨p2, p3⟩
            · have q2 : ¬ (t.size : Int) ≤ (m : Int) := by omega
              have d2 : decide (t.size ≤ m) = false := decide_eq_false p2
              have d2z : decide ((t.size : Int) ≤ (m : Int)) = false := decide_eq_false q2
              go_enter Try.func45, Try.ntmps45
              go_wp2_with fail
              rw [← hw0]
              refine HIP.out.mono ?_
              rintro e w' ⟨rfl, hw⟩
              subst w'
              go_wp2_with fail
              rw [← hw0]
              refine HTB.out.mono ?_
              rintro e w1 ⟨rfl, hb1⟩
              have HB1 := hideO hb1
              clear hb1
              go_wp2_with fail
              refine (HBW.out w1).mono ?_
              rintro e w2 ⟨rfl, hb2⟩
              obtain ⟨hr2, hg2, z2⟩ := HALL.out w1 HB1.out w2 hb2
              have GB := hideO hg2
              obtain ⟨c0, c1, c2, f0⟩ := hr2.cells
              clear hr2 hb2 hg2
              go_wp2_with fail
              refine bodyPost_ret (v := tOut ⟨#[]⟩ 0 3) (by simp [results, tOut, Try.results45, go_sem, c0, c1, c2]) rfl ⟨by rw [HV.out], ?_⟩
              exact ((GB.out.setCell (Nat.le_refl _) _).setCell (Nat.le_refl _) _).setCell (Nat.le_refl _) _
            · have q2 : (t.size : Int) ≤ (m : Int) := by omega
              have d2 : decide (t.size ≤ m) = true := decide_eq_true p2
              have d2z : decide ((t.size : Int) ≤ (m : Int)) = true := decide_eq_true q2
              have q3 : ¬ (0 : Int) < (m : Int) := by omega
              have d3 : decide (0 < m) = false := decide_eq_false p3
              have d3z : decide ((0 : Int) < (m : Int)) = false := decide_eq_false q3
              go_enter Try.func45, Try.ntmps45
              go_wp2_with fail
              rw [← hw0]
              refine HIP.out.mono ?_
              rintro e w' ⟨rfl, hw⟩
              subst w'
              go_wp2_with fail
              rw [← hw0]
              refine HTB.out.mono ?_
              rintro e w1 ⟨rfl, hb1⟩
              have HB1 := hideO hb1
              clear hb1
              go_wp2_with fail
              refine (HBW.out w1).mono ?_
              rintro e w2 ⟨rfl, hb2⟩
              obtain ⟨hr2, hg2, z2⟩ := HALL.out w1 HB1.out w2 hb2
              have GB := hideO hg2
              obtain ⟨c0, c1, c2, f0⟩ := hr2.cells
              clear hr2 hb2 hg2
              go_wp2_with fail
              refine bodyPost_ret (v := tOut ⟨#[]⟩ 0 3) (by simp [results, tOut, Try.results45, go_sem, c0, c1, c2]) rfl ⟨by rw [HV.out], ?_⟩
              exact ((GB.out.setCell (Nat.le_refl _) _).setCell (Nat.le_refl _) _).setCell (Nat.le_refl _) _
end Go.Proofs.Ytmkpakhpjgocjaa.So
