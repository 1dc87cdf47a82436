/- Texts put together: UnbSpec2, BackSpec, UnStep, UnOpen, UnsealWalks, UnsealSpec, UnsealTop. -/
import Derived.Test.YthbpenanelbbcaaGreatDoorBz45
import Derived.Test.YthbpenanelbbcaaGreatDoorBz37
import Derived.Test.YthbpenanelbbcaaGreatDoorBz30
import Derived.Test.YthbpenanelbbcaaGreatDoorBz32
import Derived.Test.YthbpenanelbbcaaGreatDoorBz43
import Derived.Test.YthbpenanelbbcaaGreatDoorBz23
import Derived.Test.YthbpenanelbbcaaGreatDoorBz29
import Derived.Deep.RegionWith
/- What the specification's Unbwt answers. -/
namespace Go.Proofs.YthbpenanelbbcaaGreatDoor.So
open Go.RowKit Go.Sort Go.Proofs
set_option maxRecDepth 100000 in
set_option maxHeartbeats 8000000 in
theorem unbwt_spec (t : ByteArray) (a : Int) (w : World) (hn : t.size ≤ 1048576) :
  Calls Tryz.prog 64 #[.string t, .int .i64 a] w fun e w' => e = .returned (unR t a) ∧ Below w.heap.size w w' := by
 by_cases hbig : 8000 < t.size
 ·have HV := hideO (unR_big (a := a) hbig)
  go_enter Tryz.func64, Tryz.ntmps64
  go_wp2_with fail
  refine bodyPost_ret (v := tOut ⟨#[]⟩ 0 2) (by simp [results, tOut, Tryz.results64, go_sem]) rfl ⟨by rw [HV.out], ?_⟩
  exact (Below.refl _ _).alloc (Nat.le_refl _) _
 ·have hbig' : ¬ (8000 : Int) < (t.size : Int) := by omega
  obtain ⟨w0, hw0⟩ : ∃ w0, w0 = w.alloc (.cells #[.string ⟨#[]⟩, .int .i64 0, .int .i64 0] 26) := ⟨_, rfl⟩
  have z0 : w0.heap.size = w.heap.size + 1 := by rw [hw0]; simp
  have HR0 : Hid (IsX w0 w.heap.size) := by unfold Hid; rw [hw0]; exact heap_alloc_last w _
  have HB0 : Hid (Below w.heap.size w w0) := by unfold Hid; rw [hw0]; exact (Below.refl _ _).alloc (Nat.le_refl _) _
  have HIP := hideO (block_spec t w0 hn)
  by_cases hlong : 48 < t.size
  ·have HV := hideO (unR_form (a := a) hbig (Or.inl hlong))
   rw [decide_eq_false (by omega : ¬ t.size ≤ 48)] at HIP
   go_enter Tryz.func64, Tryz.ntmps64
   go_wp2_with fail
   rw [← hw0]
   refine HIP.out.mono ?_
   rintro e w' ⟨rfl, hw⟩
   subst w'
   subst hw0
   go_wp2_with fail
   refine bodyPost_ret (v := tOut ⟨#[]⟩ 0 1) (by simp [results, tOut, Tryz.results64, go_sem]) rfl ⟨by rw [HV.out], ?_⟩
   exact (Below.refl _ _).alloc (Nat.le_refl _) _
  ·rw [decide_eq_true (by omega : t.size ≤ 48)] at HIP
   by_cases hbad : a < 0 ∨ ((t.size : Int) ≤ a ∧ 0 < a)
   ·have HV := hideO (unR_form hbig (Or.inr hbad))
    by_cases hneg : a < 0
    ·have hd1 : decide (a < 0) = true := decide_eq_true hneg
     clear hbad
     go_enter Tryz.func64, Tryz.ntmps64
     go_wp2_with fail
     rw [← hw0]
     refine HIP.out.mono ?_
     rintro e w' ⟨rfl, hw⟩
     subst w'
     subst hw0
     go_wp2_with fail
     refine bodyPost_ret (v := tOut ⟨#[]⟩ 0 1) (by simp [results, tOut, Tryz.results64, go_sem]) rfl ⟨by rw [HV.out], ?_⟩
     exact (Below.refl _ _).alloc (Nat.le_refl _) _
    ·have hd1 : decide (a < 0) = false := decide_eq_false hneg
     have hd2 : decide ((t.size : Int) ≤ a) = true := decide_eq_true (by omega)
     have hd3 : decide (0 < a) = true := decide_eq_true (by omega)
     have hd4 : decide (a < (t.size : Int)) = false := decide_eq_false (by omega)
     have p2 : (t.size : Int) ≤ a := by omega
     have p3 : 0 < a := by omega
     clear hbad
     go_enter Tryz.func64, Tryz.ntmps64
     go_wp2_with fail
     rw [← hw0]
     refine HIP.out.mono ?_
     rintro e w' ⟨rfl, hw⟩
     subst w'
     subst hw0
     go_wp2_with fail
     refine bodyPost_ret (v := tOut ⟨#[]⟩ 0 1) (by simp [results, tOut, Tryz.results64, go_sem]) rfl ⟨by rw [HV.out], ?_⟩
     exact (Below.refl _ _).alloc (Nat.le_refl _) _
   ·obtain ⟨m, rfl⟩ : ∃ m : Nat, a = m := ⟨a.toNat, by omega⟩
    have hd1 : decide ((m : Int) < 0) = false := decide_eq_false (by omega)
    have HTB := hideO (l05Back_spec t m w0 (by omega) (by omega))
    have hbz := backT_size t m
    have HBW := hideO (fun W => l05Bwt_spec (backT t m) W (by omega))
    have HY := hideO (fun h => unR_yes (t := t) (a := m) (by omega) (by omega) h)
    have HNO := hideO (fun h => unR_no (t := t) (a := m) (by omega) (by omega) h)
    obtain ⟨b, hb⟩ : ∃ b, b = backT t m := ⟨_, rfl⟩
    obtain ⟨bt', hbt⟩ : ∃ bt', bt' = bwtT b := ⟨_, rfl⟩
    obtain ⟨ba, hba⟩ : ∃ ba, ba = bwtA b := ⟨_, rfl⟩
    rw [← hb] at HTB HBW HY HNO
    rw [← hbt, ← hba] at HBW HY HNO
    have hcase : (¬ t.size ≤ m) ∨ (t.size ≤ m ∧ ¬ 0 < m) := by omega
    clear hb hbt hba hbz hbad
    have HALL : Hid (∀ w1 : World, Below w0.heap.size w0 w1 → ∀ w2 : World, Below w1.heap.size w1 w2 → IsX w2 w.heap.size ∧ Below w.heap.size w w2 ∧ w.heap.size < w2.heap.size) := fun w1 h1 w2 h2 => by
     have z1 := h1.size
     have z2 := h2.size
     exact ⟨(h2.block w.heap.size (by omega)).trans ((h1.block w.heap.size (by omega)).trans HR0.out), (HB0.out.trans (h1.mono (by omega))).trans (h2.mono (by omega)), by omega⟩
    by_cases hq : bt' = t ∧ ba = m
    ·obtain ⟨rfl, rfl⟩ := hq
     have HV := hideO (HY.out ⟨rfl, rfl⟩)
     clear HY HNO
     rcases hcase with p2 | ⟨p2, p3⟩
     ·have q2 : ¬ (bt'.size : Int) ≤ (ba : Int) := by omega
      have d2 : decide (bt'.size ≤ ba) = false := decide_eq_false p2
      have d2z : decide ((bt'.size : Int) ≤ (ba : Int)) = false := decide_eq_false q2
      go_enter Tryz.func64, Tryz.ntmps64
      go_wp2_with fail
      rw [← hw0]
      refine HIP.out.mono ?_
      rintro e w' ⟨rfl, hw⟩
      subst w'
      go_wp2_with fail
      rw [← hw0]
      refine HTB.out.mono ?_
      rintro e w1 ⟨rfl, hb1⟩
      have HB1 := hideO hb1
      clear hb1
      go_wp2_with fail
      refine (HBW.out w1).mono ?_
      rintro e w2 ⟨rfl, hb2⟩
      obtain ⟨hr2, hg2, z2⟩ := HALL.out w1 HB1.out w2 hb2
      have GB := hideO hg2
      obtain ⟨c0, c1, c2, f0⟩ := hr2.cells
      clear hr2 hb2 hg2
      go_wp2_with fail
      refine bodyPost_ret (v := tOut b 0 0) (by simp [results, tOut, Tryz.results64, go_sem, c0, c1, c2]) rfl ⟨by rw [HV.out], ?_⟩
      exact ((GB.out.setCell (Nat.le_refl _) _).setCell (Nat.le_refl _) _).setCell (Nat.le_refl _) _
     ·have q2 : (bt'.size : Int) ≤ (ba : Int) := by omega
      have d2 : decide (bt'.size ≤ ba) = true := decide_eq_true p2
      have d2z : decide ((bt'.size : Int) ≤ (ba : Int)) = true := decide_eq_true q2
      have q3 : ¬ (0 : Int) < (ba : Int) := by omega
      have d3 : decide (0 < ba) = false := decide_eq_false p3
      have d3z : decide ((0 : Int) < (ba : Int)) = false := decide_eq_false q3
      go_enter Tryz.func64, Tryz.ntmps64
      go_wp2_with fail
      rw [← hw0]
      refine HIP.out.mono ?_
      rintro e w' ⟨rfl, hw⟩
      subst w'
      go_wp2_with fail
      rw [← hw0]
      refine HTB.out.mono ?_
      rintro e w1 ⟨rfl, hb1⟩
      have HB1 := hideO hb1
      clear hb1
      go_wp2_with fail
      refine (HBW.out w1).mono ?_
      rintro e w2 ⟨rfl, hb2⟩
      obtain ⟨hr2, hg2, z2⟩ := HALL.out w1 HB1.out w2 hb2
      have GB := hideO hg2
      obtain ⟨c0, c1, c2, f0⟩ := hr2.cells
      clear hr2 hb2 hg2
      go_wp2_with fail
      refine bodyPost_ret (v := tOut b 0 0) (by simp [results, tOut, Tryz.results64, go_sem, c0, c1, c2]) rfl ⟨by rw [HV.out], ?_⟩
      exact ((GB.out.setCell (Nat.le_refl _) _).setCell (Nat.le_refl _) _).setCell (Nat.le_refl _) _
    ·have HV := hideO (HNO.out hq)
     by_cases hqt : bt' = t
     ·subst hqt
      have hqm : ((ba : Int) != (m : Int)) = true := bne_iff_ne.2 (fun e => hq ⟨rfl, by omega⟩)
      clear hq HY HNO
      rcases hcase with p2 | ⟨p2, p3⟩
      ·have q2 : ¬ (bt'.size : Int) ≤ (m : Int) := by omega
       have d2 : decide (bt'.size ≤ m) = false := decide_eq_false p2
       have d2z : decide ((bt'.size : Int) ≤ (m : Int)) = false := decide_eq_false q2
       go_enter Tryz.func64, Tryz.ntmps64
       go_wp2_with fail
       rw [← hw0]
       refine HIP.out.mono ?_
       rintro e w' ⟨rfl, hw⟩
       subst w'
       go_wp2_with fail
       rw [← hw0]
       refine HTB.out.mono ?_
       rintro e w1 ⟨rfl, hb1⟩
       have HB1 := hideO hb1
       clear hb1
       go_wp2_with fail
       refine (HBW.out w1).mono ?_
       rintro e w2 ⟨rfl, hb2⟩
       obtain ⟨hr2, hg2, z2⟩ := HALL.out w1 HB1.out w2 hb2
       have GB := hideO hg2
       obtain ⟨c0, c1, c2, f0⟩ := hr2.cells
       clear hr2 hb2 hg2
       go_wp2_with fail
       refine bodyPost_ret (v := tOut ⟨#[]⟩ 0 3) (by simp [results, tOut, Tryz.results64, go_sem, c0, c1, c2]) rfl ⟨by rw [HV.out], ?_⟩
       exact ((GB.out.setCell (Nat.le_refl _) _).setCell (Nat.le_refl _) _).setCell (Nat.le_refl _) _
      ·have q2 : (bt'.size : Int) ≤ (m : Int) := by omega
       have d2 : decide (bt'.size ≤ m) = true := decide_eq_true p2
       have d2z : decide ((bt'.size : Int) ≤ (m : Int)) = true := decide_eq_true q2
       have q3 : ¬ (0 : Int) < (m : Int) := by omega
       have d3 : decide (0 < m) = false := decide_eq_false p3
       have d3z : decide ((0 : Int) < (m : Int)) = false := decide_eq_false q3
       go_enter Tryz.func64, Tryz.ntmps64
       go_wp2_with fail
       rw [← hw0]
       refine HIP.out.mono ?_
       rintro e w' ⟨rfl, hw⟩
       subst w'
       go_wp2_with fail
       rw [← hw0]
       refine HTB.out.mono ?_
       rintro e w1 ⟨rfl, hb1⟩
       have HB1 := hideO hb1
       clear hb1
       go_wp2_with fail
       refine (HBW.out w1).mono ?_
       rintro e w2 ⟨rfl, hb2⟩
       obtain ⟨hr2, hg2, z2⟩ := HALL.out w1 HB1.out w2 hb2
       have GB := hideO hg2
       obtain ⟨c0, c1, c2, f0⟩ := hr2.cells
       clear hr2 hb2 hg2
       go_wp2_with fail
       refine bodyPost_ret (v := tOut ⟨#[]⟩ 0 3) (by simp [results, tOut, Tryz.results64, go_sem, c0, c1, c2]) rfl ⟨by rw [HV.out], ?_⟩
       exact ((GB.out.setCell (Nat.le_refl _) _).setCell (Nat.le_refl _) _).setCell (Nat.le_refl _) _
     ·have hqe : (bt'.toList == t.toList) = false := by rw [list_eq_iff]; exact decide_eq_false hqt
      clear hq hqt HY HNO
      rcases hcase with p2 | ⟨p2, p3⟩
      ·have q2 : ¬ (t.size : Int) ≤ (m : Int) := by omega
       have d2 : decide (t.size ≤ m) = false := decide_eq_false p2
       have d2z : decide ((t.size : Int) ≤ (m : Int)) = false := decide_eq_false q2
       go_enter Tryz.func64, Tryz.ntmps64
       go_wp2_with fail
       rw [← hw0]
       refine HIP.out.mono ?_
       rintro e w' ⟨rfl, hw⟩
       subst w'
       go_wp2_with fail
       rw [← hw0]
       refine HTB.out.mono ?_
       rintro e w1 ⟨rfl, hb1⟩
       have HB1 := hideO hb1
       clear hb1
       go_wp2_with fail
       refine (HBW.out w1).mono ?_
       rintro e w2 ⟨rfl, hb2⟩
       obtain ⟨hr2, hg2, z2⟩ := HALL.out w1 HB1.out w2 hb2
       have GB := hideO hg2
       obtain ⟨c0, c1, c2, f0⟩ := hr2.cells
       clear hr2 hb2 hg2
       go_wp2_with fail
       refine bodyPost_ret (v := tOut ⟨#[]⟩ 0 3) (by simp [results, tOut, Tryz.results64, go_sem, c0, c1, c2]) rfl ⟨by rw [HV.out], ?_⟩
       exact ((GB.out.setCell (Nat.le_refl _) _).setCell (Nat.le_refl _) _).setCell (Nat.le_refl _) _
      ·have q2 : (t.size : Int) ≤ (m : Int) := by omega
       have d2 : decide (t.size ≤ m) = true := decide_eq_true p2
       have d2z : decide ((t.size : Int) ≤ (m : Int)) = true := decide_eq_true q2
       have q3 : ¬ (0 : Int) < (m : Int) := by omega
       have d3 : decide (0 < m) = false := decide_eq_false p3
       have d3z : decide ((0 : Int) < (m : Int)) = false := decide_eq_false q3
       go_enter Tryz.func64, Tryz.ntmps64
       go_wp2_with fail
       rw [← hw0]
       refine HIP.out.mono ?_
       rintro e w' ⟨rfl, hw⟩
       subst w'
       go_wp2_with fail
       rw [← hw0]
       refine HTB.out.mono ?_
       rintro e w1 ⟨rfl, hb1⟩
       have HB1 := hideO hb1
       clear hb1
       go_wp2_with fail
       refine (HBW.out w1).mono ?_
       rintro e w2 ⟨rfl, hb2⟩
       obtain ⟨hr2, hg2, z2⟩ := HALL.out w1 HB1.out w2 hb2
       have GB := hideO hg2
       obtain ⟨c0, c1, c2, f0⟩ := hr2.cells
       clear hr2 hb2 hg2
       go_wp2_with fail
       refine bodyPost_ret (v := tOut ⟨#[]⟩ 0 3) (by simp [results, tOut, Tryz.results64, go_sem, c0, c1, c2]) rfl ⟨by rw [HV.out], ?_⟩
       exact ((GB.out.setCell (Nat.le_refl _) _).setCell (Nat.le_refl _) _).setCell (Nat.le_refl _) _
end Go.Proofs.YthbpenanelbbcaaGreatDoor.So


/- What the specification's ZerosBack answers. -/
namespace Go.Proofs.YthbpenanelbbcaaGreatDoor.Ze
open Go.RowKit
open Go.Proofs.YthbpenanelbbcaaGreatDoor.In (Ints OwnI IsO one_newI one_cellI app_one)
open Go.Proofs.YthbpenanelbbcaaGreatDoor.In.Tryz (infoI2)
theorem min_any (p q : Nat) (w : World) : Calls Tryz.prog 69 #[.int .i64 p, .int .i64 q] w fun e w' => e = .returned (.int .i64 (min p q : Nat)) ∧ w' = w := by
 by_cases h : p < q
 ·have HE : Hid (min p q = p) := by unfold Hid; omega
  rw [HE.out]
  have h' : (p : Int) < q := by omega
  go_enter Tryz.func69, Tryz.ntmps69
  go_wp2_with fail
  go_ret
  exact ⟨rfl, rfl⟩
 ·have HE : Hid (min p q = q) := by unfold Hid; omega
  rw [HE.out]
  have h' : ¬ (p : Int) < q := by omega
  go_enter Tryz.func69, Tryz.ntmps69
  go_wp2_with fail
  go_ret
  exact ⟨rfl, rfl⟩
def Bs (l : List Int) (k : Nat) (lo : List Int) (q : Nat) : Prop :=
 ((bst (l.take k)).1.length ≤ 400 ∧ lo = (bst (l.take k)).1 ∧ q = (bst (l.take k)).2) ∨ (400 < (bst (l.take k)).1.length ∧ 400 < lo.length)
theorem Bs.one {l : List Int} {k : Nat} {lo : List Int} {q : Nat} (h : Bs l k lo q) (hk : k < l.length) (h1 : 1 < l[k]) : Bs l (k + 1) (lo ++ [l[k] - 1]) 1 := by
 have e := bst_one hk h1
 rcases h with ⟨h4, rfl, rfl⟩ | ⟨h4, h5⟩
 ·by_cases h6 : (bst (l.take k)).1.length + 1 ≤ 400
  ·exact .inl ⟨by rw [e]; simpa using h6, by rw [e], by rw [e]⟩
  ·exact .inr ⟨by rw [e]; simp; omega, by simp; omega⟩
 ·exact .inr ⟨by rw [e]; simp; omega, by simp; omega⟩
theorem Bs.zeros {l : List Int} {k : Nat} {lo : List Int} {q j : Nat} (h : Bs l k lo q) (hk : k < l.length) (h1 : ¬ 1 < l[k]) (hj : j ≤ (l[k].toNat + 1) * q) (hs : j = (l[k].toNat + 1) * q ∨ 400 < lo.length + j) :
  Bs l (k + 1) (lo ++ List.replicate j 0) (min 1000 (2 * q)) := by
 have e := bst_zeros hk h1
 have hw := bst_worth l k (by omega)
 have hg := bst_grow hk
 have hl : (bst (l.take (k + 1))).1.length = (bst (l.take k)).1.length + (l[k].toNat + 1) * (bst (l.take k)).2 := by rw [e]; simp
 rcases h with ⟨h4, rfl, rfl⟩ | ⟨h4, h5⟩
 ·by_cases h6 : (bst (l.take k)).1.length + (l[k].toNat + 1) * (bst (l.take k)).2 ≤ 400
  ·have hj2 : j = (l[k].toNat + 1) * (bst (l.take k)).2 := by omega
   refine .inl ⟨by omega, by rw [e, hj2], ?_⟩
   rw [e]
   simp only
   have : (bst (l.take k)).2 ≤ (l[k].toNat + 1) * (bst (l.take k)).2 := Nat.le_mul_of_pos_left _ (by omega)
   omega
  ·refine .inr ⟨by omega, ?_⟩
   rw [List.length_append, List.length_replicate]
   rcases hs with hs | hs <;> omega
 ·refine .inr ⟨by omega, ?_⟩
  rw [List.length_append]
  omega
theorem Bs.done {l : List Int} {lo : List Int} {q : Nat} (h : Bs l l.length lo q) (hn : numsR l 256 = true) : backR l = if 400 < lo.length then [] else lo := by
 unfold Bs at h
 rw [List.take_length] at h
 rcases h with ⟨h4, rfl, rfl⟩ | ⟨h4, h5⟩
 ·rw [backR_yes hn h4, if_neg (by omega)]
 ·rw [if_pos h5]
  exact backR_long (k := l.length) (Nat.le_refl _) (by rw [List.take_length]; exact h4)
set_option maxRecDepth 100000 in
set_option maxHeartbeats 1000000 in
theorem zerosBack_spec (l : List Int) (a : Option Addr) (cap B : Nat) (w : World) (hi : Ints w B a l) (hB : B ≤ w.heap.size) (hn : l.length ≤ 1048576) :
    Calls Tryz.prog 66 #[.slice a l.length cap] w fun e w' => ∃ v, e = .returned v ∧ OwnI w' w.heap.size v (backR l) ∧ Below w.heap.size w w' := by
  obtain ⟨i0, hi0, hz0, hz1, hz2⟩ := info_parts infoI2
  have hb0 : Below w.heap.size w (w.alloc (.cells #[] 2)) := (Below.refl _ _).alloc (Nat.le_refl _) _
  have HU := hideZ (nums_spec l 256 a cap w.heap.size (w.alloc (.cells #[] 2)) ((hi.mono hB).below hb0) hn)
  have HW := hideZ (OwnI.empty w)
  have HB0 := hideZ hb0
  cases hu : numsR l 256 with
  | false =>
    rw [backR_no hu]
    rw [hu] at HU
    clear hi hu hb0
    generalize l.length = n at HU hn ⊢
    go_enter Tryz.func66, Tryz.ntmps66
    go_wp2_with fail
    refine HU.out.mono ?_
    rintro e w' ⟨rfl, hw⟩
    subst w'
    go_wp2_with fail
    go_ret
    exact ⟨_, rfl, HW.out, HB0.out⟩
  | true =>
    have HNR := hideZ hu
    have HUP := hideZ (upTo_yes (numsR_yes hu).2)
    have hlong := (numsR_yes hu).1
    rw [hu] at HU
    have HS := hideZ (hi.mono hB)
    clear hi hu hb0
    obtain ⟨n, hln⟩ : ∃ n, n = l.length := ⟨_, rfl⟩
    have HLN := hideZ hln
    rw [← hln] at HU hlong ⊢
    clear hln hn
    go_enter Tryz.func66, Tryz.ntmps66
    go_wp2_with fail
    refine HU.out.mono ?_
    rintro e w' ⟨rfl, hw⟩
    subst w'
    go_wp2_with fail
    go_loopw [5, 3, 4] (fun i u m wr => ∃ (k q : Nat) (lo : List Int), i = .int .i64 k ∧ m = .int .i64 q ∧ k ≤ n ∧ q ≤ 1000 ∧ lo.length ≤ 401 + k ∧ Bs l k lo q ∧ OwnI wr w.heap.size u lo ∧ Below w.heap.size w wr) (fun i _ _ _ => n - (intOf i).toNat)
    case atStart => exact ⟨0, 1, [], rfl, rfl, Nat.zero_le _, by omega, by simp, .inl ⟨by simp [bst], rfl, rfl⟩, HW.out, HB0.out⟩
    case round =>
      obtain ⟨k, q, lo, rfl, rfl, hk, hq, h400, hbs, hown, hbel⟩ := hrel
      have GB := hideZ hbel
      have HBS := hideZ hbs
      have hsz := hbel.size
      have G1 := hideZ hown
      obtain ⟨a', cap', rfl, _, _⟩ := hown.ints
      clear hown hbel hbs
      by_cases hlt : k < n
      · have hkl : k < l.length := by rw [← HLN.out]; exact hlt
        obtain ⟨b, off, rfl, hb, hc⟩ := (HS.out.below GB.out).some (by omega)
        have ci := hc k hkl
        have hx256 := HUP.out _ (List.getElem_mem hkl)
        have HC : Hid (∀ W : World, Below w.heap.size w W → W.cell? ⟨b, off + k, none⟩ = some (.int .i64 l[k])) := fun W hW => by
          obtain ⟨b', off', e1, _, hc'⟩ := ((HS.out.below hW).some (by omega : 0 < l.length))
          cases e1
          exact hc' k hkl
        obtain ⟨x, hx⟩ : ∃ x, x = l[k] := ⟨_, rfl⟩
        have HX := hideZ hx
        rw [← hx] at ci hx256 HC
        clear hc hx
        by_cases h0 : 1 < x
        · have HZ1 : Hid (Bs l (k + 1) (lo ++ [x - 1]) 1) := by
            unfold Hid
            rw [HX.out]
            exact HBS.out.one hkl (by rw [← HX.out]; exact h0)
          go_wp2_with (at_builtin; refine wpList_append_own _ rfl (.tmp 23) (.tmp 29) 59 rfl w.heap.size 2 i0 (.int .i64 0) 1 8 Tryz.underlying59 hi0 hz0 hz1 hz2 rfl (by decide) _ _ _ rfl (OwnI.alloc G1.out _) ⟨wr.heap.size, 0, none⟩ 1 1 [.int .i64 (x - 1)] rfl rfl (one_newI _ _ _) (one_cellI _) (by unfold maxLen; omega) (by omega) (by simp; omega) ?_)
          intro v' w6 hown' hgrow _
          have N6 := hideZ (OwnI.snoc hown')
          have b6 := hideZ (app_one GB.out (by omega) (Nat.le_refl _) G1.out hgrow)
          clear hown' hgrow
          go_wp2_with fail
          go_roundw
          case rel => exact ⟨k + 1, 1, lo ++ [x - 1], by go_num, rfl, by omega, by omega, by simp; omega, HZ1.out, N6.out, b6.out⟩
          case measure => simp [intOf]; omega
        · obtain ⟨xn, rfl⟩ : ∃ xn : Nat, x = xn := ⟨x.toNat, by omega⟩
          obtain ⟨mm, hmm⟩ : ∃ mm, mm = (xn + 1) * q := ⟨_, rfl⟩
          have hm8 : mm ≤ 2000 := by
            have : xn = 0 ∨ xn = 1 := by omega
            rcases this with rfl | rfl <;> omega
          have hmul : (q : Int) * ((xn : Int) + 1) = (mm : Int) := by rw [hmm, Int.mul_comm]; simp
          have HST : Hid (∀ j, j ≤ mm → (j = mm ∨ 400 < lo.length + j) → Bs l (k + 1) (lo ++ List.replicate j 0) (min 1000 (2 * q))) := fun j h1 h2 => by
            have e : l[k].toNat = xn := by rw [← HX.out]; rfl
            exact HBS.out.zeros hkl (by rw [← HX.out]; exact h0) (by rw [e, ← hmm]; exact h1) (by rw [e, ← hmm]; exact h2)
          clear hmm HBS
          obtain ⟨nl, hnl⟩ : ∃ nl, nl = lo.length := ⟨_, rfl⟩
          have HNL := hideZ hnl
          rw [← hnl] at h400 ⊢
          clear hnl
          go_wp2_with fail
          go_loopw [6, 3] (fun i u wr2 => ∃ j : Nat, i = .int .i64 j ∧ j ≤ mm ∧ (j = 0 ∨ nl + j ≤ 401) ∧ OwnI wr2 w.heap.size u (lo ++ List.replicate j 0) ∧ Below w.heap.size w wr2) (fun i _ _ => mm - (intOf i).toNat)
          case atStart => exact ⟨0, rfl, Nat.zero_le _, .inl rfl, by simpa [HNL.out] using G1.out, GB.out⟩
          case round =>
            obtain ⟨j, rfl, hj, hj4, hown2, hbel2⟩ := hrel
            have GB2 := hideZ hbel2
            have z2 := hbel2.size
            have c2 := HC.out _ hbel2
            obtain ⟨l2, hl2⟩ : ∃ l2, l2 = lo ++ List.replicate j 0 := ⟨_, rfl⟩
            have hll : l2.length = nl + j := by rw [hl2, List.length_append, List.length_replicate, HNL.out]
            rw [← hl2] at hown2
            have G2 := hideZ hown2
            have HL2 := hideZ hl2
            obtain ⟨a2, cap2, rfl, _, _⟩ := hown2.ints
            rw [hll] at G2 ⊢
            have HLL := hideZ hll
            clear hown2 hbel2 hl2 hll ci
            by_cases hjm : j < mm
            · by_cases h4 : nl + j ≤ 400
              · have hg1 : decide ((j : Int) < (mm : Int)) = true := decide_eq_true (by omega)
                have hg2 : decide ((((nl + j : Nat) : Int)) ≤ 400) = true := decide_eq_true (by omega)
                go_wp2_with (at_builtin; refine wpList_append_own _ rfl (.tmp 47) (.tmp 48) 59 rfl w.heap.size 2 i0 (.int .i64 0) 1 8 Tryz.underlying59 hi0 hz0 hz1 hz2 rfl (by decide) _ _ (l2.map (Value.int .i64)) rfl (by have := OwnI.alloc (l := l2) (by exact G2.out) (Obj.cells #[Value.int .i64 0] 2); unfold OwnI at this; rw [HLL.out] at this; exact this) ⟨wr.heap.size, 0, none⟩ 1 1 [.int .i64 0] rfl rfl (one_newI _ _ _) (one_cellI _) (by unfold maxLen; omega) (by omega) (by simp; omega) ?_)
                intro v' w6 hown' hgrow _
                have N6 : Hid (OwnI w6 w.heap.size v' (lo ++ List.replicate (j + 1) 0)) := by
                  have e : lo ++ List.replicate (j + 1) 0 = l2 ++ [0] := by rw [HL2.out, List.append_assoc]; congr 1; exact List.replicate_succ'
                  rw [e]
                  apply OwnI.snoc
                  rw [HLL.out]
                  exact hown'
                have b6 := hideZ (app_one GB2.out (by omega) (Nat.le_refl _) G2.out hgrow)
                clear hown' hgrow
                go_wp2_with fail
                go_roundw
                case rel => exact ⟨j + 1, by go_num, by omega, .inr (by omega), N6.out, b6.out⟩
                case measure => simp [intOf]; omega
              · have hg1 : decide ((j : Int) < (mm : Int)) = true := decide_eq_true (by omega)
                have hg2 : decide ((((nl + j : Nat) : Int)) ≤ 400) = false := decide_eq_false (by omega)
                have HB1 : Hid (Bs l (k + 1) l2 (min 1000 (2 * q))) := by
                  unfold Hid
                  rw [HL2.out]
                  exact HST.out j hj (.inr (by have := HNL.out; omega))
                have HMN := hideZ (fun W => min_any 1000 (2 * q) W)
                have hmn : min 1000 (2 * q) ≤ 1000 := Nat.min_le_left _ _
                generalize min 1000 (2 * q) = q2 at HMN HB1 hmn
                go_wp2_with fail
                refine (HMN.out wr).mono ?_
                rintro e w' ⟨rfl, hw⟩
                subst w'
                go_wp2_with fail
                go_roundw
                case rel => exact ⟨k + 1, q2, l2, by go_num, rfl, by omega, by omega, by rw [HLL.out]; omega, HB1.out, G2.out, GB2.out⟩
                case measure => simp [intOf]; omega
            · have hg1 : decide ((j : Int) < (mm : Int)) = false := decide_eq_false (by omega)
              have HB1 : Hid (Bs l (k + 1) l2 (min 1000 (2 * q))) := by
                unfold Hid
                rw [HL2.out]
                exact HST.out j hj (.inl (by omega))
              have HMN := hideZ (fun W => min_any 1000 (2 * q) W)
              have hmn : min 1000 (2 * q) ≤ 1000 := Nat.min_le_left _ _
              generalize min 1000 (2 * q) = q2 at HMN HB1 hmn
              go_wp2_with fail
              refine (HMN.out wr).mono ?_
              rintro e w' ⟨rfl, hw⟩
              subst w'
              go_wp2_with fail
              go_roundw
              case rel => exact ⟨k + 1, q2, l2, by go_num, rfl, by omega, by omega, by rw [HLL.out]; omega, HB1.out, G2.out, GB2.out⟩
              case measure => simp [intOf]; omega
      · have hkn : k = l.length := by have := HLN.out; omega
        have HE := hideZ (Bs.done (by rw [← hkn]; exact HBS.out) HNR.out)
        clear hkn
        by_cases h4 : 400 < lo.length
        · have h4' : (400 : Int) < (lo.length : Int) := by omega
          rw [if_pos h4] at HE
          have HW2 := hideZ ((OwnI.empty wr).mono hsz)
          have HB2 := hideZ (GB.out.alloc hsz (.cells #[] 2))
          go_wp2_with fail
          go_ret
          exact ⟨_, rfl, by rw [HE.out]; exact HW2.out, HB2.out⟩
        · have h4' : ¬ (400 : Int) < (lo.length : Int) := by omega
          rw [if_neg h4] at HE
          go_wp2_with fail
          go_ret
          exact ⟨_, rfl, by rw [HE.out]; exact G1.out, GB.out⟩
end Go.Proofs.YthbpenanelbbcaaGreatDoor.Ze


/- What the specification's l06Open hands back: of a block's short form the block. -/
namespace Go.Proofs.YthbpenanelbbcaaGreatDoor.Up
open Go.Proofs.YthbpenanelbbcaaGreatDoor.Pk
open Go.RowKit
open Go.Proofs.YthbpenanelbbcaaGreatDoor.Gn (rd)
open Go.Proofs.YthbpenanelbbcaaGreatDoor.Hf (up up_length up_set)
open Go.Proofs.YthbpenanelbbcaaGreatDoor.Bi (above openR getR open_spec)
open Go.Proofs.YthbpenanelbbcaaGreatDoor.So (bwtA unR unR_case unbwt_spec tOut)
open Go.Proofs.YthbpenanelbbcaaGreatDoor.Fr (fbackR frontBack_spec)
open Go.Proofs.YthbpenanelbbcaaGreatDoor.Ze (backR zerosBack_spec backR_len)
open Go.Proofs.YthbpenanelbbcaaGreatDoor.In (Ints IsI made_ints)
open Go.Proofs.YthbpenanelbbcaaGreatDoor.Dr (Aft)
def Rd (t : ByteArray) (k : Nat) (at_ : Int) (bad : Bool) : Prop := (0 ≤ at_ ∧ at_ ≤ t.size) ∧ ∀ b, Good t b → bad = false ∧ at_ = (posK b k : Int)
theorem rd_end (t : ByteArray) (a : Int) : (rd t a).2.1 ≤ t.size := by
 unfold rd
 split
 ·exact Nat.zero_le _
 ·split
  ·exact Nat.zero_le _
  ·exact Gn.run_place t _ _ _ _
theorem rd_step {t : ByteArray} {k : Nat} {at_ most : Int} {bad : Bool} (h : Rd t k at_ bad) (hk : ∀ b, Good t b → ∃ v, (numsAll b)[k]? = some v ∧ v ≤ most) :
  (okN t at_ bad most → Rd t (k + 1) ((rd t at_).2.1 : Int) false ∧ ∀ b, Good t b → (numsAll b)[k]? = some (rd t at_).1) ∧ (¬ okN t at_ bad most → ∀ b, ¬ Good t b) := by
 have key : ∀ b, Good t b → ∃ v, (numsAll b)[k]? = some v ∧ 0 ≤ v ∧ v ≤ most ∧ bad = false ∧ rd t at_ = (v, posK b (k + 1), 0) := by
  intro b hb
  obtain ⟨v, h1, h2⟩ := hk b hb
  obtain ⟨hl, hv⟩ := List.getElem?_eq_some_iff.1 h1
  obtain ⟨h3, h4⟩ := h.2 b hb
  have := rd_good hb k hl
  rw [← h4, hv] at this
  exact ⟨v, h1, by rw [← hv]; exact (numsAll_mem hb.1 _ (List.getElem_mem hl)).1, h2, h3, this⟩
 refine ⟨fun _ => ⟨⟨⟨by omega, by have := rd_end t at_; omega⟩, fun b hb => ?_⟩, fun b hb => ?_⟩, fun hn b hb => ?_⟩
 ·obtain ⟨v, _, _, _, _, e⟩ := key b hb
  rw [e]
  exact ⟨rfl, rfl⟩
 ·obtain ⟨v, h1, _, _, _, e⟩ := key b hb
  rw [e]
  exact h1
 ·obtain ⟨v, _, h2, h3, h4, e⟩ := key b hb
  exact hn ⟨h4, by rw [e], by rw [e]; exact h2, by rw [e]; exact h3⟩
theorem num_step (B : Nat) (t : ByteArray) (k : Nat) (at_ most : Int) (bad : Bool) (w : World) (ht : t.size ≤ 1048576) (hm : 0 ≤ most) (hb : Rdr w B t at_ bad) (h : Rd t k at_ bad) (hk : ∀ b, Good t b → ∃ v, (numsAll b)[k]? = some v ∧ v ≤ most) :
  Calls Tryz.prog 61 #[.pointer (some ⟨B, 0, none⟩), .int .i64 most] w fun e w' => ∃ n at' bad', e = .returned (.int .i64 n) ∧ Rdr w' B t at' bad' ∧ Rd t (k + 1) at' bad' ∧ 0 ≤ n ∧ n ≤ most ∧ (∀ b, Good t b → (numsAll b)[k]? = some n) ∧ Aft B w w' := by
 obtain ⟨h1, h2⟩ := rd_step h hk
 refine (num_any B t at_ most bad w ht hb).mono ?_
 rintro e w' ⟨h3 | h3, ha⟩
 ·obtain ⟨ho, he, hr⟩ := h3
  exact ⟨_, _, _, he, hr, (h1 ho).1, ho.2.2.1, ho.2.2.2, (h1 ho).2, ha⟩
 ·obtain ⟨ho, he, hr⟩ := h3
  exact ⟨_, _, _, he, hr, ⟨h.1, fun b hb => absurd hb (h2 ho b)⟩, Int.le_refl _, hm, fun b hb => absurd hb (h2 ho b), ha⟩
theorem rd_first {t : ByteArray} (h : 1 ≤ t.size) : Rd t 0 1 false := ⟨⟨by decide, by omega⟩, fun b _ => ⟨rfl, by unfold posK; simp [numsL]⟩⟩
theorem head_ok {t : ByteArray} : (∀ b, Good t b → ∃ v, (numsAll b)[0]? = some v ∧ v ≤ 48) ∧ (∀ b, Good t b → ∃ v, (numsAll b)[1]? = some v ∧ v ≤ 48) ∧ (∀ b, Good t b → ∃ v, (numsAll b)[2]? = some v ∧ v ≤ 400) ∧ (∀ b, Good t b → ∃ v, (numsAll b)[3]? = some v ∧ v ≤ 257) := by
 refine ⟨fun b hb => ⟨_, (numsAll_head b).1, ?_⟩, fun b hb => ⟨_, (numsAll_head b).2.1, ?_⟩, fun b hb => ⟨_, (numsAll_head b).2.2.1, ?_⟩, fun b hb => ⟨_, (numsAll_head b).2.2.2, ?_⟩⟩
 ·have := hb.1; omega
 ·have := hb.1; have := bwtA_le hb.1; omega
 ·have := symS_len b; omega
 ·have := above_le b; omega
theorem aft_isI {B g : Nat} {T : TypeId} {w w' : World} {l : List Int} (h : IsI w g T l) (ha : Aft B w w') (hn : g ≠ B) : IsI w' g T l := (ha.block g h.lt hn).trans h
theorem zeros_up : up (tabL [] (Hf.zeros 257) []) = List.replicate 257 0 := by
 show up (Hf.zeros 257) = _
 unfold up Hf.zeros
 rw [List.map_replicate]
 rfl
theorem syL_len (b : ByteArray) : (syL (lenS b) 257).length = above (up (lenS b)) := by
 rw [above_eq, (lenS_facts b).1]
end Go.Proofs.YthbpenanelbbcaaGreatDoor.Up


/- The walk of the specification's l06Open. -/
namespace Go.Proofs.YthbpenanelbbcaaGreatDoor.Up
open Go.Proofs.YthbpenanelbbcaaGreatDoor.Pk
open Go.RowKit
open Go.Proofs.YthbpenanelbbcaaGreatDoor.Hf (up up_length up_set)
open Go.Proofs.YthbpenanelbbcaaGreatDoor.Bi (above openR getR open_spec)
open Go.Proofs.YthbpenanelbbcaaGreatDoor.So (bwtA unR unR_case unbwt_spec tOut)
open Go.Proofs.YthbpenanelbbcaaGreatDoor.Fr (fbackR frontBack_spec)
open Go.Proofs.YthbpenanelbbcaaGreatDoor.Ze (backR zerosBack_spec backR_len)
open Go.Proofs.YthbpenanelbbcaaGreatDoor.In (Ints IsI made_ints)
open Go.Proofs.YthbpenanelbbcaaGreatDoor.Dr (Aft)
theorem pair_ok {t : ByteArray} {j q : Nat} (h : ∀ b, Good t b → j + (q + 1) = above (up (lenS b))) : (∀ b, Good t b → ∃ v, (numsAll b)[4 + 2 * j]? = some v ∧ v ≤ 256) ∧ (∀ b, Good t b → ∃ v, (numsAll b)[4 + 2 * j + 1]? = some v ∧ v ≤ 12) := by
 refine ⟨fun b hb => ?_, fun b hb => ?_⟩
 ·have hj : j < (syL (lenS b) 257).length := by rw [syL_len]; have := h b hb; omega
  refine ⟨_, (numsAll_pair b j hj).1, ?_⟩
  have := syL_lt _ (List.getElem_mem hj)
  omega
 ·have hj : j < (syL (lenS b) 257).length := by rw [syL_len]; have := h b hb; omega
  refine ⟨_, (numsAll_pair b j hj).2, ?_⟩
  have := (lenS_facts b).2.1 (syL (lenS b) 257)[j]
  omega
theorem row_next {t : ByteArray} {j q y : Nat} {z : Int} {l : List Int} (h : ∀ b, Good t b → j + (q + 1) = above (up (lenS b)) ∧ l = up (tabL (lenS b) (Hf.zeros 257) ((syL (lenS b) 257).take j)))
  (h1 : ∀ b, Good t b → (numsAll b)[4 + 2 * j]? = some (y : Int)) (h2 : ∀ b, Good t b → (numsAll b)[4 + 2 * j + 1]? = some z) :
  ∀ b, Good t b → (j + 1) + q = above (up (lenS b)) ∧ l.set y z = up (tabL (lenS b) (Hf.zeros 257) ((syL (lenS b) 257).take (j + 1))) := by
 intro b hb
 obtain ⟨h3, h4⟩ := h b hb
 have hj : j < (syL (lenS b) 257).length := by rw [syL_len]; omega
 obtain ⟨k1, k2⟩ := numsAll_pair b j hj
 rw [h1 b hb] at k1
 rw [h2 b hb] at k2
 have e1 : y = (syL (lenS b) 257)[j] := by have := Option.some.inj k1; omega
 have e2 := Option.some.inj k2
 refine ⟨by omega, ?_⟩
 rw [tabL_next _ _ _ _ hj, h4, e2, e1, ← up_set]
theorem rdr_other {w : World} {B G k : Nat} {t : ByteArray} {a : Int} {bad : Bool} {v : Value} (h : Rdr w B t a bad) (hn : B < G) : Rdr (w.setCell ⟨G, k, none⟩ v) B t a bad := by
 unfold Rdr
 rw [Below.heap_setCell w ⟨G, k, none⟩ v B (by show B ≠ G; omega)]
 exact h
theorem low2 {B : Nat} {w0 w w' : World} (hB : w0.heap.size = B) (h : Below B w0 w) (hb : Below w.heap.size w w') : Below B w0 w' := h.trans (hb.mono (by rw [← hB]; exact h.size))
theorem ext_size (t : ByteArray) (p : Nat) : (t.extract p t.size).size ≤ t.size := by
 rw [ByteArray.size_extract]
 omega
theorem fieldX (yb : ByteArray) (yc : Int) (u : World) : (Instr.field 26 (.agg #[.string yb, .int .i64 0, .int .i64 yc]) 0).run Tryz.prog u = .ok (.string yb) u := by kernel_rfl
theorem all_read {t : ByteArray} {j p : Nat} {n2 n3 : Int} {l : List Int} (h : ∀ b, Good t b → j + 0 = above (up (lenS b)) ∧ l = up (tabL (lenS b) (Hf.zeros 257) ((syL (lenS b) 257).take j)))
    (hr : Rd t (4 + 2 * j) (p : Int) false) (h2 : ∀ b, Good t b → (numsAll b)[1]? = some n2) (h3 : ∀ b, Good t b → (numsAll b)[2]? = some n3) :
    ∀ b, Good t b → l = up (lenS b) ∧ n2 = ((bwtA b : Nat) : Int) ∧ n3 = ((symS b).length : Int) ∧ t.extract p t.size = bitsS b := by
  intro b hb
  obtain ⟨h4, h5⟩ := h b hb
  have hp := (hr.2 b hb).2
  refine ⟨?_, ?_, ?_, ?_⟩
  · rw [h5, List.take_of_length_le (by rw [syL_len]; omega), tabL_all _ (lenS_facts b).1]
  · have := h2 b hb
    rw [(numsAll_head b).2.1] at this
    exact (Option.some.inj this).symm
  · have := h3 b hb
    rw [(numsAll_head b).2.2.1] at this
    exact (Option.some.inj this).symm
  · have e : p = posK b (numsAll b).length := by
      rw [numsAll_len, ← h4, show 4 + 2 * (j + 0) = 4 + 2 * j by omega]
      omega
    rw [e]
    exact (posK_all hb).2
set_option maxRecDepth 100000 in
set_option maxHeartbeats 4000000 in
theorem openS_any (t : ByteArray) (w : World) (h1 : 1 ≤ t.size) (ht : t.size ≤ 8000) :
  Calls Tryz.prog 33 #[.string t] w fun e w' => (∃ r, e = .returned (.string r) ∧ r.size ≤ 400 ∧ ∀ b, Good t b → r = b) ∧ Below w.heap.size w w' := by
 obtain ⟨i0, hi, hz0, hz1, hz2⟩ := info_parts In.Tryz.infoI2
 have HT1 := hideP h1
 go_enter Tryz.func33, Tryz.ntmps33
 go_wp2_with fail
 have R0 : Hid (Rdr (w.alloc (.cells #[.string t, .int .i64 1, .bool false] 81)) w.heap.size t 1 false) := heap_alloc_new w _
 have L0 : Hid (Below w.heap.size w (w.alloc (.cells #[.string t, .int .i64 1, .bool false] 81))) := (Below.refl _ _).alloc (Nat.le_refl _) _
 generalize hww : w.alloc (.cells #[.string t, .int .i64 1, .bool false] 81) = w0 at R0 L0 ⊢
 clear hww
 generalize hBe : w.heap.size = B at R0 L0 ⊢
 have HBE := hideP hBe
 clear hBe
 refine (num_step B t 0 1 48 false w0 (by omega) (by decide) R0.out (rd_first HT1.out) head_ok.1).mono ?_
 rintro e w1 ⟨n1, p1, b1, rfl, hr, hd, hn1, hn2, hn3, ha⟩
 have R1 := hideP hr
 have D1 := hideP hd
 have F1 := hideP hn3
 have L1 := hideP (Aft.below L0.out ha (Nat.le_refl _) (Nat.le_of_lt (rdr_lt R0.out)))
 clear hr hd hn1 hn2 hn3 ha R0 L0 F1
 go_wp2_with fail
 refine (num_step B t 1 p1 48 b1 w1 (by omega) (by decide) R1.out D1.out head_ok.2.1).mono ?_
 rintro e w2 ⟨n2, p2, b2, rfl, hr, hd, hn1, hn2, hn3, ha⟩
 have R2 := hideP hr
 have D2 := hideP hd
 have F2 := hideP hn3
 have L2 := hideP (Aft.below L1.out ha (Nat.le_refl _) (Nat.le_of_lt (rdr_lt R1.out)))
 clear hr hd hn1 hn2 hn3 ha R1 D1 L1
 go_wp2_with fail
 refine (num_step B t 2 p2 400 b2 w2 (by omega) (by decide) R2.out D2.out head_ok.2.2.1).mono ?_
 rintro e w3 ⟨n3, p3, b3, rfl, hr, hd, hn1, hn2, hn3, ha⟩
 have R3 := hideP hr
 have D3 := hideP hd
 have F3 := hideP hn3
 have L3 := hideP (Aft.below L2.out ha (Nat.le_refl _) (Nat.le_of_lt (rdr_lt R2.out)))
 clear hr hd hn1 hn2 hn3 ha R2 D2 L2
 go_wp2_with (at_make; refine wpList_make_full _ rfl (.const (.int .i64 257)) (.const (.int .i64 257)) 59 rfl w3.heap.size 2 i0 (.int .i64 0) 1 Tryz.underlying59 hi hz0 hz1 .i64 .i64 _ _ 257 rfl rfl (by omega) (by omega) (by rw [hz2]; omega) (by unfold maxLen; omega) (Nat.le_refl _) ?_; intro wm hown hgrow; have I0 := hideP (made_ints hown); have HBm := hideP ((Below.refl w3.heap.size w3).grown hgrow (Nat.le_refl _) (by simp)); clear hown hgrow)
 have Rm := hideP (show Rdr wm B t p3 b3 from blk_low R3.out HBm.out)
 have Lm := hideP (L3.out.trans (HBm.out.mono (Nat.le_of_lt (rdr_lt R3.out))))
 have hBG := rdr_lt R3.out
 clear HBm L3 R3
 generalize w3.heap.size = G at I0 hBG ⊢
 refine (num_step B t 3 p3 257 b3 wm (by omega) (by decide) Rm.out D3.out head_ok.2.2.2).mono ?_
 rintro e w5 ⟨n4, p4, b4, rfl, hr, hd, hn1, hn2, hn3, ha⟩
 have R4 := hideP hr
 have D4 := hideP hd
 have F4 := hideP hn3
 have L4 := hideP (Aft.below Lm.out ha (Nat.le_refl _) (Nat.le_of_lt (rdr_lt Rm.out)))
 have I5 := hideP (aft_isI I0.out ha (by omega))
 obtain ⟨kq, rfl⟩ := Int.eq_ofNat_of_zero_le hn1
 have hkq : kq ≤ 257 := by omega
 have HK : Hid (∀ b, Good t b → 0 + kq = above (up (lenS b)) ∧ List.replicate 257 (0 : Int) = up (tabL (lenS b) (Hf.zeros 257) ((syL (lenS b) 257).take 0))) := fun b hb => by
  have := hn3 b hb
  rw [(numsAll_head b).2.2.2] at this
  have e := Option.some.inj this
  refine ⟨by omega, ?_⟩
  rw [List.take_zero]
  exact zeros_up.symm
 clear hr hd hn1 hn2 hn3 ha Rm D3 Lm F4 I0
 go_wp2_with fail
 go_loopw [7, 8] (fun kv _ wr => ∃ (kk j : Nat) (p : Int) (bd : Bool) (l : List Int), kv = .int .i64 kk ∧ kk ≤ 257 ∧ Rdr wr B t p bd ∧ Rd t (4 + 2 * j) p bd ∧ IsI wr G 2 l ∧ l.length = 257 ∧ (∀ b, Good t b → j + kk = above (up (lenS b)) ∧ l = up (tabL (lenS b) (Hf.zeros 257) ((syL (lenS b) 257).take j))) ∧ Below B w wr) (fun kv _ _ => (intOf kv).toNat)
 case atStart => exact ⟨kq, 0, p4, b4, _, rfl, hkq, R4.out, D4.out, I5.out, List.length_replicate .., HK.out, L4.out⟩
 case round =>
  obtain ⟨kk, j, p, bd, l, rfl, hkk, hr, hd, hil, hll, hg, hlw⟩ := hrel
  have RW := hideP hr
  have DW := hideP hd
  have IW := hideP hil
  have HG := hideP hg
  have LW := hideP hlw
  have HLL := hideP hll
  have cB2 : wr.cell? ⟨B, 2, none⟩ = some (.bool bd) := cell_of_row wr B 2 _ _ _ hr
  have cB1 : wr.cell? ⟨B, 1, none⟩ = some (.int .i64 p) := cell_of_row wr B 1 _ _ _ hr
  clear hr hd hil hg hlw hll R4 D4 I5 HK L4
  cases bd with
  | true =>
   have HNO : Hid (∀ b, ¬ Good t b) := fun b hb => absurd (DW.out.2 b hb).1 (by decide)
   by_cases hk0 : kk = 0
   ·subst hk0
    go_wp2_with fail
    go_ret
    exact ⟨⟨_, rfl, by decide, fun b hb => absurd hb (HNO.out b)⟩, by rw [HBE.out]; exact LW.out⟩
   ·have hk1 : (0 : Int) < (kk : Int) := by omega
    go_wp2_with fail
    go_ret
    exact ⟨⟨_, rfl, by decide, fun b hb => absurd hb (HNO.out b)⟩, by rw [HBE.out]; exact LW.out⟩
  | false =>
   by_cases hk0 : kk = 0
   ·subst hk0
    have hp1 := DW.out.1.1
    have hp2 := DW.out.1.2
    obtain ⟨pn, rfl⟩ := Int.eq_ofNat_of_zero_le hp1
    have HALL := hideP (all_read HG.out DW.out F2.out F3.out)
    have HIN := hideP (IW.out.ints (B := wr.heap.size) IW.out.lt)
    have hpn : pn ≤ t.size := by omega
    clear HG DW IW RW F2 F3
    go_wp2_with fail
    refine (open_spec (t.extract pn t.size) _ wr (by have := ext_size t pn; omega)).mono ?_
    rintro e w8 ⟨rfl, hb8⟩
    have I8 := hideP (ints_keep HIN.out hb8)
    have L8 := hideP (low2 HBE.out LW.out hb8)
    clear hb8 HIN LW cB1 cB2
    obtain ⟨xr, hxr⟩ : ∃ x, x = t.extract pn t.size := ⟨_, rfl⟩
    have hxs : xr.size ≤ 8000 := by rw [hxr]; have := ext_size t pn; omega
    have hxz : t.size - pn = xr.size := by rw [hxr, ByteArray.size_extract]; omega
    rw [← hxr] at HALL ⊢
    rw [hxz]
    clear hxr hxz
    obtain ⟨bits, hbits⟩ : ∃ x, x = openR xr (8 * (xr.size : Int)) := ⟨_, rfl⟩
    have hsz : bits.size ≤ 64000 := by rw [hbits]; exact openR_size xr _ hxs
    have HGS := hideP (fun (W : World) (h : Ints W W.heap.size (some ⟨G, 0, none⟩) l) => Bi.get_spec l bits n3 (some ⟨G, 0, none⟩) 257 W h (by have := HLL.out; omega) (by omega))
    obtain ⟨xl, xa, xc, hx⟩ : ∃ x y z, getR l bits n3 = (x, y, z) := ⟨_, _, _, rfl⟩
    have HSY : Hid (∀ b, Good t b → xl = symS b ∧ n2 = ((bwtA b : Nat) : Int)) := fun b hb => by
     obtain ⟨g1, g2, g3, g4⟩ := HALL.out b hb
     have := bits_back hb
     rw [← g1, ← g3, ← g4, ← hbits, hx] at this
     exact ⟨congrArg Prod.fst this, g2⟩
    have ey : xl.length ≤ 400 := by
     have := Bi.getR_length l bits n3
     rw [hx] at this
     exact this
    rw [hx, HLL.out] at HGS
    rw [← hbits]
    clear hbits hx HALL
    go_wp2_with fail
    refine (HGS.out w8 I8.out).mono ?_
    rintro e w9 ⟨v9, rfl, ho9, hb9⟩
    have L9 := hideP (low2 HBE.out L8.out hb9)
    clear hb9 I8 L8 HGS
    obtain ⟨ay, cy, hv, hi9⟩ := In.OwnIn.ints ho9
    obtain ⟨ny, hny⟩ : ∃ x, x = xl.length := ⟨_, rfl⟩
    rw [← hny] at hv ey
    subst hv
    have NY := hideP hny
    have I9 := hideP hi9
    clear hny hi9 ho9
    go_wp2_with fail
    have hb10 : Below w9.heap.size w9 (w9.alloc (.cells #[.slice ay ny cy, .int .i64 xa, .int .i64 xc] 83)) := (Below.refl _ _).alloc (Nat.le_refl _) _
    generalize hww : w9.alloc (.cells #[.slice ay ny cy, .int .i64 xa, .int .i64 xc] 83) = w10 at hb10 ⊢
    clear hww
    have I10 := hideP (ints_keep I9.out hb10)
    have L10 := hideP (low2 HBE.out L9.out hb10)
    clear hb10 I9 L9
    have HZI := hideP (fun (W : World) (h : Ints W W.heap.size ay xl) => zerosBack_spec xl ay cy W.heap.size W h (Nat.le_refl _) (by have := NY.out; omega))
    rw [← NY.out] at HZI
    refine (HZI.out w10 I10.out).mono ?_
    rintro e w11 ⟨v11, rfl, ho11, hb11⟩
    have L11 := hideP (low2 HBE.out L10.out hb11)
    clear hb11 I10 L10 HZI
    obtain ⟨az, cz, hv, _, hi11⟩ := ho11.ints
    obtain ⟨nz, hnz⟩ : ∃ x, x = (backR xl).length := ⟨_, rfl⟩
    rw [← hnz] at hv
    subst hv
    have NZ := hideP hnz
    have I11 := hideP hi11
    clear hnz hi11 ho11
    have ez : nz ≤ 400 := by rw [NZ.out]; exact backR_len _
    have HFI := hideP (fun (W : World) (h : Ints W W.heap.size az (backR xl)) => frontBack_spec (backR xl) az cz W.heap.size W h (Nat.le_refl _) (by have := NZ.out; omega))
    rw [← NZ.out] at HFI
    go_wp2_with fail
    refine (HFI.out w11 I11.out).mono ?_
    rintro e w12 ⟨rfl, hb12⟩
    have L12 := hideP (low2 HBE.out L11.out hb12)
    clear hb12 I11 L11 HFI
    have hfs : (fbackR (backR xl)).length ≤ 400 := fback_len _
    obtain ⟨tx, htx⟩ : ∃ x : ByteArray, x = ⟨(fbackR (backR xl)).toArray⟩ := ⟨_, rfl⟩
    have hts : tx.size ≤ 400 := by rw [htx, size_list]; exact hfs
    rw [← htx]
    have HTX := hideP htx
    clear htx hfs
    go_wp2_with fail
    refine (unbwt_spec tx n2 w12 (by omega)).mono ?_
    rintro e w13 ⟨rfl, hb13⟩
    have L13 := hideP (low2 HBE.out L12.out hb13)
    clear hb13 L12
    obtain ⟨yb, yc, hy⟩ := unR_case tx n2
    have HEND : Hid (∀ b, Good t b → yb = b) := fun b hb => by
     obtain ⟨g1, g2⟩ := HSY.out b hb
     have h3 := block_back hb.1
     rw [← g1, ← HTX.out, ← g2, hy] at h3
     unfold tOut at h3
     simp at h3
     exact h3.1
    have HYS : Hid (yb.size ≤ 400) := unR_size (by omega) hy
    rw [hy]
    clear hy
    have hfld := fieldX yb yc
    go_wp2
    go_ret
    exact ⟨⟨_, rfl, HYS.out, HEND.out⟩, by rw [HBE.out]; exact L13.out⟩
   ·obtain ⟨q, rfl⟩ : ∃ q, kk = q + 1 := ⟨kk - 1, by omega⟩
    have hk1 : (0 : Int) < ((q + 1 : Nat) : Int) := by omega
    have HOK := hideP (pair_ok (q := q) fun b hb => (HG.out b hb).1)
    go_wp2_with fail
    refine (num_step B t (4 + 2 * j) p 256 false wr (by omega) (by decide) RW.out DW.out HOK.out.1).mono ?_
    rintro e w6 ⟨y, p6, b6, rfl, hr, hd, hn1, hn2, hn3, ha⟩
    have R6 := hideP hr
    have D6 := hideP hd
    have F6 := hideP hn3
    have I6 := hideP (aft_isI IW.out ha (by omega))
    have L6 := hideP (Aft.below LW.out ha (Nat.le_refl _) (Nat.le_of_lt (rdr_lt RW.out)))
    obtain ⟨yn, rfl⟩ := Int.eq_ofNat_of_zero_le hn1
    have hyn : yn < 257 := by omega
    clear hr hd hn1 hn2 hn3 ha cB1 cB2 RW DW IW LW
    go_wp2_with fail
    refine (num_step B t (4 + 2 * j + 1) p6 12 b6 w6 (by omega) (by decide) R6.out D6.out HOK.out.2).mono ?_
    rintro e w7 ⟨z, p7, b7, rfl, hr, hd, hn1, hn2, hn3, ha⟩
    have R7 := hideP hr
    have D7 := hideP hd
    have F7 := hideP hn3
    have I7 := hideP (aft_isI I6.out ha (by omega))
    have L7 := hideP (Aft.below L6.out ha (Nat.le_refl _) (Nat.le_of_lt (rdr_lt R6.out)))
    clear hr hd hn1 hn2 hn3 ha R6 D6 I6 L6
    have HNX := hideP (row_next HG.out F6.out F7.out)
    have cy := I7.out.cell (j := yn) (by have := HLL.out; omega)
    have fy := I7.out.frozen yn
    have hyi : (yn : Int) < 257 := by omega
    generalize l[yn]'(by have := HLL.out; omega) = old at cy
    clear HG F6 F7 HOK
    go_wp2_with fail
    go_roundw
    case rel =>
     refine ⟨q, j + 1, p7, b7, l.set yn z, by go_num, by omega, ?_, ?_, I7.out.set yn z, by rw [List.length_set]; exact HLL.out, HNX.out, L7.out.setCell (p := ⟨G, yn, none⟩) (by show B ≤ G; omega) _⟩
     ·exact rdr_other R7.out (by omega)
     ·rw [show 4 + 2 * (j + 1) = 4 + 2 * j + 1 + 1 by omega]
      exact D7.out
    case measure => simp [intOf]
end Go.Proofs.YthbpenanelbbcaaGreatDoor.Up


/- The walks of the two functions that open a sealed text: each answers Se.unsealV of its text, and writes nothing that was there. -/
namespace Go.Proofs.YthbpenanelbbcaaGreatDoor.Se
open Go.RowKit
open Go.Proofs.YthbpenanelbbcaaGreatDoor.Nu (bv arr_string ret_strJ hideJ)
def outV (t : ByteArray) (at_ code : Int) : Value := .agg #[.string t, .int .i64 at_, .int .i64 code]
def unsealV (s : ByteArray) : Value :=
 if 8000 < s.size then outV ⟨#[]⟩ 0 2 else if s.size < 4 then outV ⟨#[]⟩ 0 4
 else if sealV (s.extract 0 (s.size - 4)) = s then outV (s.extract 0 (s.size - 4)) 0 0 else outV ⟨#[]⟩ 0 5
theorem bcell {W w1 : World} (hb : Below W.heap.size W w1) : (∀ b o, b < W.heap.size → w1.cell? ⟨b, o, none⟩ = W.cell? ⟨b, o, none⟩) ∧ (∀ b o, b < W.heap.size → w1.frozen? ⟨b, o, none⟩ = W.frozen? ⟨b, o, none⟩) :=
 ⟨fun b o h => hb.cell (p := ⟨b, o, none⟩) h, fun b o h => hb.frozen (p := ⟨b, o, none⟩) h⟩
theorem below3 {w wa wb : World} {o : Obj} (h1 : Below (w.alloc o).heap.size (w.alloc o) wa) (h2 : Below (w.alloc o).heap.size wa wb) : Below w.heap.size w wb :=
 ((Below.refl w.heap.size w).alloc (Nat.le_refl _) o).trans ((h1.trans h2).mono (by simp))
theorem below2d {w wa : World} {o : Obj} (h1 : Below (w.alloc o).drew.heap.size (w.alloc o).drew wa) : Below w.heap.size w wa :=
 ((Below.refl w.heap.size w).alloc (Nat.le_refl _) o).drew.trans (h1.mono (by simp))
theorem list_eq_iff (a b : ByteArray) : (a.toList == b.toList) = decide (a = b) := by
 by_cases h : a = b
 ·rw [h]; simp
 ·rw [decide_eq_false h, beq_eq_false_iff_ne]
  intro e
  apply h
  rw [ByteArray.toList_eq, ByteArray.toList_eq] at e
  have e2 : a.data = b.data := by rw [← Array.toArray_toList (xs := a.data), e, Array.toArray_toList]
  cases a; cases b; simpa using e2
theorem unsealV_yes (s t : ByteArray) (h1 : ¬ 8000 < s.size) (h2 : ¬ s.size < 4) (ht : t = s.extract 0 (s.size - 4)) (h : sealV t = s) : unsealV s = outV t 0 0 := by
 unfold unsealV
 rw [if_neg h1, if_neg h2, ← ht, if_pos h]
theorem unsealV_no (s t : ByteArray) (h1 : ¬ 8000 < s.size) (h2 : ¬ s.size < 4) (ht : t = s.extract 0 (s.size - 4)) (h : ¬ sealV t = s) : unsealV s = outV ⟨#[]⟩ 0 5 := by
 unfold unsealV
 rw [if_neg h1, if_neg h2, ← ht, if_neg h]
set_option maxRecDepth 100000 in
set_option maxHeartbeats 1000000 in
theorem unseal_impl (s : ByteArray) (w : World) (hs : s.size ≤ maxLen) :
  Calls Tryz.prog 26 #[.string s] w fun e w' => e = .returned (unsealV s) ∧ Below w.heap.size w w' := by
 unfold maxLen at hs
 by_cases h1 : 8000 < s.size
 ·have HV := hideJ (show unsealV s = outV ⟨#[]⟩ 0 2 by unfold unsealV; rw [if_pos h1])
  go_enter Tryz.func26, Tryz.ntmps26
  go_wp2
  refine bodyPost_ret (v := outV ⟨#[]⟩ 0 2) (by simp [results, outV, Tryz.results26, go_sem]) rfl ⟨by rw [HV.out], ?_⟩
  exact (Below.refl _ _).alloc (Nat.le_refl _) _
 ·by_cases h2 : s.size < 4
  ·have HV := hideJ (show unsealV s = outV ⟨#[]⟩ 0 4 by unfold unsealV; rw [if_neg h1, if_pos h2])
   go_enter Tryz.func26, Tryz.ntmps26
   go_wp2
   refine bodyPost_ret (v := outV ⟨#[]⟩ 0 4) (by simp [results, outV, Tryz.results26, go_sem]) rfl ⟨by rw [HV.out], ?_⟩
   exact (Below.refl _ _).alloc (Nat.le_refl _) _
  ·obtain ⟨t, ht⟩ : ∃ t, t = s.extract 0 (s.size - 4) := ⟨_, rfl⟩
   have hts : t.size ≤ 7996 := by rw [ht]; simp; omega
   have HT := hideJ ht
   by_cases hq : sealV t = s
   ·have HV := hideJ (unsealV_yes s t h1 h2 ht hq)
    have hB : ((sealV t).toList == s.toList) = true := by rw [list_eq_iff]; exact decide_eq_true hq
    clear ht hq
    go_enter Tryz.func26, Tryz.ntmps26
    go_wp2_with fail
    rw [show ((s.size : Int) - 4) = ((s.size - 4 : Nat) : Int) from by omega]
    refine (Nu.cut_any s 0 (s.size - 4) _ (by omega) (by omega) (by omega)).mono ?_
    rw [← HT.out]
    rintro e wa ⟨rfl, hb1⟩
    obtain ⟨hc1, hf1⟩ := bcell hb1
    have hz1 : w.heap.size + 1 ≤ wa.heap.size := by have := hb1.size; simpa using this
    go_wp2_with fail
    refine (seal_impl t _ (by unfold maxLen; omega)).mono ?_
    rintro e wb ⟨rfl, hb2⟩
    obtain ⟨hc2, hf2⟩ := bcell hb2
    have hz2 : wa.heap.size ≤ wb.heap.size := hb2.size
    have hlt : w.heap.size < wa.heap.size := by omega
    go_wp2
    refine bodyPost_ret (v := outV t 0 0) (by simp [results, outV, Tryz.results26, go_sem, hc2, hc1, hlt]) rfl ⟨by rw [HV.out], ?_⟩
    exact ((below3 hb1 (hb2.mono (by simpa using hz1))).setCell (Nat.le_refl _) _ |>.setCell (Nat.le_refl _) _).setCell (Nat.le_refl _) _
   ·have HV := hideJ (unsealV_no s t h1 h2 ht hq)
    have hB : ((sealV t).toList == s.toList) = false := by rw [list_eq_iff]; exact decide_eq_false hq
    clear ht hq
    go_enter Tryz.func26, Tryz.ntmps26
    go_wp2_with fail
    rw [show ((s.size : Int) - 4) = ((s.size - 4 : Nat) : Int) from by omega]
    refine (Nu.cut_any s 0 (s.size - 4) _ (by omega) (by omega) (by omega)).mono ?_
    rw [← HT.out]
    rintro e wa ⟨rfl, hb1⟩
    obtain ⟨hc1, hf1⟩ := bcell hb1
    have hz1 : w.heap.size + 1 ≤ wa.heap.size := by have := hb1.size; simpa using this
    go_wp2_with fail
    refine (seal_impl t _ (by unfold maxLen; omega)).mono ?_
    rintro e wb ⟨rfl, hb2⟩
    obtain ⟨hc2, hf2⟩ := bcell hb2
    have hz2 : wa.heap.size ≤ wb.heap.size := hb2.size
    have hlt : w.heap.size < wa.heap.size := by omega
    go_wp2
    refine bodyPost_ret (v := outV ⟨#[]⟩ 0 5) (by simp [results, outV, Tryz.results26, go_sem, hc2, hc1, hlt]) rfl ⟨by rw [HV.out], ?_⟩
    exact ((below3 hb1 (hb2.mono (by simpa using hz1))).setCell (Nat.le_refl _) _ |>.setCell (Nat.le_refl _) _).setCell (Nat.le_refl _) _
end Go.Proofs.YthbpenanelbbcaaGreatDoor.Se


/- The walk of spec.Unseal: it answers Se.unsealV of its text, and writes nothing that was there. -/
namespace Go.Proofs.YthbpenanelbbcaaGreatDoor.Se
open Go.RowKit
open Go.Proofs.YthbpenanelbbcaaGreatDoor.Nu (bv arr_string ret_strJ hideJ)
theorem seal_split (s t : ByteArray) (ht : t = s.extract 0 (s.size - 4)) (hts : t.size ≤ 7996) : sealV t = s ↔ fourS (crcOf t) = s.extract (s.size - 4) s.size := by
 have e : t ++ s.extract (s.size - 4) s.size = s := by
  rw [ht, ByteArray.extract_append_extract]; simp [Nat.max_eq_right]
 unfold sealV
 rw [if_pos hts]
 constructor
 ·intro h
  rw [← e] at h
  generalize s.extract (s.size - 4) s.size = r at h e ⊢
  have h' : t ++ fourS (crcOf t) = t ++ r := by
   rw [e] at h
   rw [e]
   exact h
  exact (ByteArray.append_right_inj t).1 h'
 ·intro h
  rw [h]
  exact e
set_option maxRecDepth 100000 in
set_option maxHeartbeats 1000000 in
theorem unseal_spec (s : ByteArray) (w : World) (hs : s.size ≤ maxLen) :
  Calls Tryz.prog 24 #[.string s] w fun e w' => e = .returned (unsealV s) ∧ Below w.heap.size w w' := by
 unfold maxLen at hs
 by_cases h1 : 8000 < s.size
 ·have HV := hideJ (show unsealV s = outV ⟨#[]⟩ 0 2 by unfold unsealV; rw [if_pos h1])
  go_enter Tryz.func24, Tryz.ntmps24
  go_wp2
  refine bodyPost_ret (v := outV ⟨#[]⟩ 0 2) (by simp [results, outV, Tryz.results24, go_sem]) rfl ⟨by rw [HV.out], ?_⟩
  exact (Below.refl _ _).alloc (Nat.le_refl _) _
 ·by_cases h2 : s.size < 4
  ·have HV := hideJ (show unsealV s = outV ⟨#[]⟩ 0 4 by unfold unsealV; rw [if_neg h1, if_pos h2])
   go_enter Tryz.func24, Tryz.ntmps24
   go_wp2
   refine bodyPost_ret (v := outV ⟨#[]⟩ 0 4) (by simp [results, outV, Tryz.results24, go_sem]) rfl ⟨by rw [HV.out], ?_⟩
   exact (Below.refl _ _).alloc (Nat.le_refl _) _
  ·obtain ⟨t, ht⟩ : ∃ t, t = s.extract 0 (s.size - 4) := ⟨_, rfl⟩
   have hts : t.size ≤ 7996 := by rw [ht]; simp; omega
   by_cases hq : sealV t = s
   ·have HV := hideJ (unsealV_yes s t h1 h2 ht hq)
    have hB : ((fourS (crcOf t)).toList == (s.extract (s.size - 4) s.size).toList) = true := by rw [list_eq_iff]; exact decide_eq_true ((seal_split s t ht hts).1 hq)
    have hB2 : ((fourS (crcOf t)).toList == (s.extract ((s.size : Int) - 4).toNat s.size).toList) = true := by rw [show ((s.size : Int) - 4).toNat = s.size - 4 from by omega]; exact hB
    have HT := hideJ ht
    clear ht hq
    have g1 : (0 : Int) ≤ (s.size : Int) - 4 := by omega
    have g2 : (s.size : Int) - 4 ≤ (s.size : Int) := by omega
    have hwr : IntKind.i64.wrap ((s.size : Int) - 4) = (s.size : Int) - 4 := by rw [IntKind.wrap_i64]; omega
    go_enter Tryz.func24, Tryz.ntmps24
    go_wp2
    rw [← HT.out]
    go_region_with (first | (go_at_call 54; refine (Cr.crc_spec 0 t _ (by omega) (by omega)).mono ?_; rintro e w' ⟨rfl, hw⟩; subst w') | (go_at_call 53; refine (four_any (crcOf t) _ (crcOf_lt t)).mono ?_; rintro e wa ⟨rfl, hb1⟩))
    obtain ⟨hc1, hf1⟩ := bcell hb1
    have hz1 : w.heap.size + 1 ≤ wa.heap.size := by have := hb1.size; simpa using this
    go_wp2
    refine bodyPost_ret (v := outV t 0 0) (by simp [results, outV, Tryz.results24, go_sem, hc1]) rfl ⟨by rw [HV.out], ?_⟩
    exact ((below2d hb1).setCell (Nat.le_refl _) _ |>.setCell (Nat.le_refl _) _).setCell (Nat.le_refl _) _
   ·have HV := hideJ (unsealV_no s t h1 h2 ht hq)
    have hB : ((fourS (crcOf t)).toList == (s.extract (s.size - 4) s.size).toList) = false := by rw [list_eq_iff]; exact decide_eq_false (fun h => hq ((seal_split s t ht hts).2 h))
    have hB2 : ((fourS (crcOf t)).toList == (s.extract ((s.size : Int) - 4).toNat s.size).toList) = false := by rw [show ((s.size : Int) - 4).toNat = s.size - 4 from by omega]; exact hB
    have HT := hideJ ht
    clear ht hq
    have g1 : (0 : Int) ≤ (s.size : Int) - 4 := by omega
    have g2 : (s.size : Int) - 4 ≤ (s.size : Int) := by omega
    have hwr : IntKind.i64.wrap ((s.size : Int) - 4) = (s.size : Int) - 4 := by rw [IntKind.wrap_i64]; omega
    go_enter Tryz.func24, Tryz.ntmps24
    go_wp2
    rw [← HT.out]
    go_region_with (first | (go_at_call 54; refine (Cr.crc_spec 0 t _ (by omega) (by omega)).mono ?_; rintro e w' ⟨rfl, hw⟩; subst w') | (go_at_call 53; refine (four_any (crcOf t) _ (crcOf_lt t)).mono ?_; rintro e wa ⟨rfl, hb1⟩))
    obtain ⟨hc1, hf1⟩ := bcell hb1
    have hz1 : w.heap.size + 1 ≤ wa.heap.size := by have := hb1.size; simpa using this
    go_wp2
    refine bodyPost_ret (v := outV ⟨#[]⟩ 0 5) (by simp [results, outV, Tryz.results24, go_sem, hc1]) rfl ⟨by rw [HV.out], ?_⟩
    exact ((below2d hb1).setCell (Nat.le_refl _) _ |>.setCell (Nat.le_refl _) _).setCell (Nat.le_refl _) _
end Go.Proofs.YthbpenanelbbcaaGreatDoor.Se


/- The walk of the law FnExactUnseal out of the contracts. -/
namespace Go.Proofs.YthbpenanelbbcaaGreatDoor.Se
open Go.RowKit
theorem unsealV_form (s : ByteArray) : ∃ t c, unsealV s = .agg #[.string t, .int .i64 0, .int .i64 c] := by
 unfold unsealV outV
 split
 ·exact ⟨_, _, rfl⟩
 ·split
  ·exact ⟨_, _, rfl⟩
  ·split <;> exact ⟨_, _, rfl⟩
end Go.Proofs.YthbpenanelbbcaaGreatDoor.Se
namespace Go.Proofs.YthbpenanelbbcaaGreatDoor.fnExactUnseal
open Go.RowKit
end Go.Proofs.YthbpenanelbbcaaGreatDoor.fnExactUnseal

