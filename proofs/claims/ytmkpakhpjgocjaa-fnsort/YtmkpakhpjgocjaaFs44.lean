/- Texts put together: UnbImpl2, UnbSpec. -/
import Derived.Test.YtmkpakhpjgocjaaFs43
import Derived.Test.YtmkpakhpjgocjaaFs6
import Derived.Test.YtmkpakhpjgocjaaFs31
/- What the program's Unbwt answers: the whole. -/
namespace Go.Proofs.Ytmkpakhpjgocjaa.So
open Go.RowKit Go.Sort Go.Proofs

def IsX (w : World) (g : Nat) : Prop := w.heap[g]? = some (.cells #[.string ⟨#[]⟩, .int .i64 0, .int .i64 0] 51 (0, 0))
theorem IsX.cells {w : World} {g : Nat} (h : IsX w g) : w.cell? ⟨g, 0, none⟩ = some (.string ⟨#[]⟩) ∧ w.cell? ⟨g, 1, none⟩ = some (.int .i64 0) ∧ w.cell? ⟨g, 2, none⟩ = some (.int .i64 0) ∧ (∀ j, w.frozen? ⟨g, j, none⟩ = false) := by
  refine ⟨?_, ?_, ?_, fun j => frozen_of_row w g j _ _ h⟩
  · rw [cell_of_row w g 0 _ _ (0, 0) h]; rfl
  · rw [cell_of_row w g 1 _ _ (0, 0) h]; rfl
  · rw [cell_of_row w g 2 _ _ (0, 0) h]; rfl
theorem bwtC_no {t : ByteArray} (h : t.size ≤ 48) : bwtC t = 0 := by
  unfold bwtC
  rw [if_neg (by omega), if_neg (by omega)]

set_option maxRecDepth 100000 in
set_option maxHeartbeats 1000000 in
theorem unbwt_impl (t : ByteArray) (a : Int) (w : World) (hn : t.size ≤ 1048576) :
    Calls Try.prog 36 #[.string t, .int .i64 a] w fun e w' => e = .returned (unR t a) ∧ Below w.heap.size w w' := by
  by_cases hbig : 8000 < t.size
  · have HV := hideO (unR_big (a := a) hbig)
    go_enter Try.func36, Try.ntmps36
    go_wp2_with fail
    refine bodyPost_ret (v := tOut ⟨#[]⟩ 0 2) (by simp [results, tOut, Try.results36, go_sem]) rfl ⟨by rw [HV.out], ?_⟩
    exact (Below.refl _ _).alloc (Nat.le_refl _) _
  · have hbig' : ¬ (8000 : Int) < (t.size : Int) := by omega
    by_cases hlong : 48 < t.size
    · have HV := hideO (unR_form (a := a) hbig (Or.inl hlong))
      have hd : decide ((48 : Int) < (t.size : Int)) = true := decide_eq_true (by omega)
      go_enter Try.func36, Try.ntmps36
      go_wp2_with fail
      refine bodyPost_ret (v := tOut ⟨#[]⟩ 0 1) (by simp [results, tOut, Try.results36, go_sem]) rfl ⟨by rw [HV.out], ?_⟩
      exact (Below.refl _ _).alloc (Nat.le_refl _) _
    · have hlong' : ¬ (48 : Int) < (t.size : Int) := by omega
      have hd : decide ((48 : Int) < (t.size : Int)) = false := decide_eq_false (by omega)
      obtain ⟨w0, hw0⟩ : ∃ w0, w0 = w.alloc (.cells #[.string ⟨#[]⟩, .int .i64 0, .int .i64 0] 51) := ⟨_, rfl⟩
      have z0 : w0.heap.size = w.heap.size + 1 := by rw [hw0]; simp
      have HR0 : Hid (IsX w0 w.heap.size) := by unfold Hid; rw [hw0]; exact heap_alloc_last w _
      have HB0 : Hid (Below w.heap.size w w0) := by unfold Hid; rw [hw0]; exact (Below.refl _ _).alloc (Nat.le_refl _) _
      have HIP := hideO (isPlace_impl t a w0)
      by_cases hbad : a < 0 ∨ ((t.size : Int) ≤ a ∧ 0 < a)
      · have HV := hideO (unR_form hbig (Or.inr hbad))
        rw [decide_eq_true hbad] at HIP
        go_enter Try.func36, Try.ntmps36
        go_wp2_with fail
        rw [← hw0]
        refine HIP.out.mono ?_
        rintro e w' ⟨rfl, hw⟩
        subst w'
        subst hw0
        go_wp2_with fail
        refine bodyPost_ret (v := tOut ⟨#[]⟩ 0 1) (by simp [results, tOut, Try.results36, go_sem]) rfl ⟨by rw [HV.out], ?_⟩
        exact (Below.refl _ _).alloc (Nat.le_refl _) _
      · rw [decide_eq_false hbad] at HIP
        obtain ⟨m, rfl⟩ : ∃ m : Nat, a = m := ⟨a.toNat, by omega⟩
        have HTB := hideO (turnBack_impl t m w0 hn (by omega))
        have hbz := backT_size t m
        have HBW := hideO (fun W => bwt_impl (backT t m) W (by omega))
        rw [bwtC_no (show (backT t m).size ≤ 48 by omega)] at HBW
        have HY := hideO (fun h => unR_yes (t := t) (a := m) (by omega) (by omega) h)
        have HNO := hideO (fun h => unR_no (t := t) (a := m) (by omega) (by omega) h)
        obtain ⟨b, hb⟩ : ∃ b, b = backT t m := ⟨_, rfl⟩
        obtain ⟨bt', hbt⟩ : ∃ bt', bt' = bwtT b := ⟨_, rfl⟩
        obtain ⟨ba, hba⟩ : ∃ ba, ba = bwtA b := ⟨_, rfl⟩
        rw [← hb] at HTB HBW HY HNO
        rw [← hbt, ← hba] at HBW HY HNO
        unfold sOut at HBW
        clear hb hbt hba hbz hbad
        by_cases hq : bt' = t ∧ ba = m
        · obtain ⟨rfl, rfl⟩ := hq
          have HV := hideO (HY.out ⟨rfl, rfl⟩)
          clear HY HNO
          go_enter Try.func36, Try.ntmps36
          go_wp2_with fail
          rw [← hw0]
          refine HIP.out.mono ?_
          rintro e w' ⟨rfl, hw⟩
          subst w'
          go_wp2_with fail
          rw [← hw0]
          refine HTB.out.mono ?_
          rintro e w1 ⟨rfl, hb1⟩
          have HR1 : Hid (IsX w1 w.heap.size) := (hb1.block w.heap.size (by omega)).trans HR0.out
          have HB1 := hideO (HB0.out.trans (hb1.mono (by omega)))
          have z1 := hb1.size
          clear hb1
          go_wp2_with fail
          refine (HBW.out w1).mono ?_
          rintro e w2 ⟨rfl, hb2⟩
          have hr2 : IsX w2 w.heap.size := (hb2.block w.heap.size (by omega)).trans HR1.out
          have GB := hideO (HB1.out.trans (hb2.mono (by omega)))
          have z2 := hb2.size
          obtain ⟨c0, c1, c2, f0⟩ := hr2.cells
          clear hr2 hb2
          go_wp2_with fail
          refine bodyPost_ret (v := tOut b 0 0) (by simp [results, tOut, Try.results36, go_sem, c0, c1, c2]) rfl ⟨by rw [HV.out], ?_⟩
          exact ((GB.out.setCell (Nat.le_refl _) _).setCell (Nat.le_refl _) _).setCell (Nat.le_refl _) _
        · have HV := hideO (HNO.out hq)
          by_cases hqt : bt' = t
          · subst hqt
            have hqm : ((ba : Int) == (m : Int)) = false := beq_eq_false_iff_ne.2 (fun e => hq ⟨rfl, by omega⟩)
            clear hq
            clear HY HNO
            go_enter Try.func36, Try.ntmps36
            go_wp2_with fail
            rw [← hw0]
            refine HIP.out.mono ?_
            rintro e w' ⟨rfl, hw⟩
            subst w'
            go_wp2_with fail
            rw [← hw0]
            refine HTB.out.mono ?_
            rintro e w1 ⟨rfl, hb1⟩
            have HR1 : Hid (IsX w1 w.heap.size) := (hb1.block w.heap.size (by omega)).trans HR0.out
            have HB1 := hideO (HB0.out.trans (hb1.mono (by omega)))
            have z1 := hb1.size
            clear hb1
            go_wp2_with fail
            refine (HBW.out w1).mono ?_
            rintro e w2 ⟨rfl, hb2⟩
            have hr2 : IsX w2 w.heap.size := (hb2.block w.heap.size (by omega)).trans HR1.out
            have GB := hideO (HB1.out.trans (hb2.mono (by omega)))
            have z2 := hb2.size
            obtain ⟨c0, c1, c2, f0⟩ := hr2.cells
            clear hr2 hb2
            go_wp2_with fail
            refine bodyPost_ret (v := tOut ⟨#[]⟩ 0 3) (by simp [results, tOut, Try.results36, go_sem, c0, c1, c2]) rfl ⟨by rw [HV.out], ?_⟩
            exact ((GB.out.setCell (Nat.le_refl _) _).setCell (Nat.le_refl _) _).setCell (Nat.le_refl _) _
          · have hqe : (bt'.toList == t.toList) = false := by rw [list_eq_iff]; exact decide_eq_false hqt
            clear hq hqt
            clear HY HNO
            go_enter Try.func36, Try.ntmps36
            go_wp2_with fail
            rw [← hw0]
            refine HIP.out.mono ?_
            rintro e w' ⟨rfl, hw⟩
            subst w'
            go_wp2_with fail
            rw [← hw0]
            refine HTB.out.mono ?_
            rintro e w1 ⟨rfl, hb1⟩
            have HR1 : Hid (IsX w1 w.heap.size) := (hb1.block w.heap.size (by omega)).trans HR0.out
            have HB1 := hideO (HB0.out.trans (hb1.mono (by omega)))
            have z1 := hb1.size
            clear hb1
            go_wp2_with fail
            refine (HBW.out w1).mono ?_
            rintro e w2 ⟨rfl, hb2⟩
            have hr2 : IsX w2 w.heap.size := (hb2.block w.heap.size (by omega)).trans HR1.out
            have GB := hideO (HB1.out.trans (hb2.mono (by omega)))
            have z2 := hb2.size
            obtain ⟨c0, c1, c2, f0⟩ := hr2.cells
            clear hr2 hb2
            go_wp2_with fail
            refine bodyPost_ret (v := tOut ⟨#[]⟩ 0 3) (by simp [results, tOut, Try.results36, go_sem, c0, c1, c2]) rfl ⟨by rw [HV.out], ?_⟩
            exact ((GB.out.setCell (Nat.le_refl _) _).setCell (Nat.le_refl _) _).setCell (Nat.le_refl _) _
end Go.Proofs.Ytmkpakhpjgocjaa.So

/- What the specification's l05Back answers. -/
namespace Go.Proofs.Ytmkpakhpjgocjaa.So
open Go.RowKit Go.Sort Go.Proofs
open Go.Proofs.Ytmkpakhpjgocjaa.Sh (bt bt_get bt_lt strF IsB)
open Go.Proofs.Ytmkpakhpjgocjaa.In (OwnI Ints one_newI one_cellI)
open Go.Proofs.Ytmkpakhpjgocjaa.In.Try (infoI2)
open Go.Proofs.Ytmkpakhpjgocjaa.Nu (bv)
open Go.Proofs.Ytmkpakhpjgocjaa.Ap (Own0 wpList_append_own0)
open Go.Proofs.Ytmkpakhpjgocjaa.Fr (Own0B own0_string one_newB one_cellB own0B_snoc)

theorem wrap_byte (y : UInt8) : wrap64 ((y.toNat : Nat) : Int) = ((y.toNat : Nat) : Int) := by
  have h := UInt8.toNat_lt y
  generalize y.toNat = n at h
  simp only [wrap64]
  omega

set_option maxRecDepth 100000 in
set_option maxHeartbeats 2000000 in
theorem l05Back_spec (t : ByteArray) (a : Nat) (w : World) (ht : t.size ≤ 48) (ha : a < t.size ∨ t.size = 0) :
    Calls Try.prog 108 #[.string t, .int .i64 a] w fun e w' => e = .returned (.string (backT t a)) ∧ Below w.heap.size w w' := by
  obtain ⟨i0, hi0, hz0, hz1, hz2⟩ := info_parts Nu.Try.infoJ5
  obtain ⟨i1, hi1, hy0, hy1, hy2⟩ := info_parts infoI2
  have HW := hideO (Ze.OwnI.empty w)
  go_enter Try.func108, Try.ntmps108
  go_wp2_with fail
  go_loopw [6, 5] (fun i u wr => ∃ b : Nat, i = .int .i64 b ∧ b ≤ 256 ∧ OwnI wr w.heap.size u (ints (plK t b)) ∧ Below w.heap.size w wr) (fun i _ _ => 256 - (intOf i).toNat)
  case atStart => exact ⟨0, rfl, by omega, HW.out, (Below.refl _ _).alloc (Nat.le_refl _) _⟩
  case round =>
    obtain ⟨b, rfl, hb, hown, hbel⟩ := hrel
    have O1 := hideO hown
    have GB := hideO hbel
    have hsz := hbel.size
    clear hbel
    by_cases hb2 : b < 256
    · have hbz : (b : Int) < 256 := by omega
      clear hown
      go_wp2_with fail
      go_loopw [7, 5] (fun i u wr => ∃ k : Nat, i = .int .i64 k ∧ k ≤ t.size ∧ OwnI wr w.heap.size u (ints (plK t b ++ plB t b k)) ∧ Below w.heap.size w wr) (fun i _ _ => t.size - (intOf i).toNat)
      case atStart => exact ⟨0, rfl, Nat.zero_le _, by rw [show plK t b ++ plB t b 0 = plK t b by simp [plB]]; exact O1.out, GB.out⟩
      case round =>
        obtain ⟨k, rfl, hk, hown, hbel⟩ := hrel
        have O2 := hideO hown
        have GB2 := hideO hbel
        have hsz2 := hbel.size
        obtain ⟨a', cap', rfl, _, _⟩ := hown.ints
        have HLL : Hid ((ints (plK t b ++ plB t b k)).length ≤ 256 * 48 + 48) := by
          unfold Hid
          rw [ints_len, List.length_append]
          have h1 := plK_len t b
          have h2 := plB_len t b k
          have h3 : b * t.size ≤ 256 * 48 := Nat.mul_le_mul hb ht
          omega
        have HYB := hideO (plB_yes t b k)
        have HNB := hideO (plB_no t b k)
        clear hown hbel
        by_cases hlt : k < t.size
        · have hkz : (k : Int) < (t.size : Int) := by omega
          obtain ⟨y, hy, hyt⟩ : ∃ y : UInt8, t[k] = y ∧ y.toNat = bt t k := ⟨_, rfl, bt_get _ _ hlt⟩
          by_cases hq : bt t k = b
          · have hyb : (wrap64 ((y.toNat : Nat) : Int) == (b : Int)) = true := by rw [wrap_byte]; exact beq_iff_eq.2 (by omega)
            have HN : Hid (ints (plK t b ++ plB t b (k + 1)) = ints (plK t b ++ plB t b k) ++ [(k : Int)]) := by
              unfold Hid
              rw [HYB.out hq, ← List.append_assoc, ints_snoc]
            obtain ⟨L, hL⟩ : ∃ L, L = ints (plK t b ++ plB t b k) := ⟨_, rfl⟩
            rw [← hL] at O2 HLL HN ⊢
            clear hyt hq hL HYB HNB
            go_wp2_with (at_builtin; refine wpList_append_own _ rfl (.tmp 27) (.tmp 29) 23 rfl w.heap.size 2 i1 (.int .i64 0) 1 8 Try.underlying23 hi1 hy0 hy1 hy2 rfl (by decide) _ L.length (L.map (Value.int .i64)) rfl ?own ⟨wr.heap.size, 0, none⟩ 1 1 [.int .i64 (k : Nat)] rfl rfl (one_newI _ _ _) (one_cellI _) (by unfold maxLen; have := HLL.out; omega) (by have := HLL.out; omega) (by simp; omega) ?_)
            case own => exact Ze.OwnI.alloc O2.out _
            intro v' w5 hown' hgrow _
            have N5 : Hid (OwnI w5 w.heap.size v' (L ++ [(k : Int)])) := In.OwnI.snoc hown'
            have b5 := hideO (In.app_one GB2.out hsz2 (Nat.le_refl _) O2.out hgrow)
            clear hown' hgrow
            go_wp2_with fail
            go_roundw
            case rel => exact ⟨k + 1, by go_num, by omega, by rw [HN.out]; exact N5.out, b5.out⟩
            case measure => simp [intOf]; omega
          · have hyb : (wrap64 ((y.toNat : Nat) : Int) == (b : Int)) = false := by rw [wrap_byte]; exact beq_eq_false_iff_ne.2 (by omega)
            have HN := hideO (HNB.out hq)
            clear hyt hq HYB HNB
            go_wp2_with fail
            go_roundw
            case rel => exact ⟨k + 1, by go_num, by omega, by rw [HN.out]; exact O2.out, GB2.out⟩
            case measure => simp [intOf]; omega
        · obtain rfl : k = t.size := by omega
          have HN := hideO (plK_succ t b)
          go_wp2_with fail
          go_roundw
          case rel => exact ⟨b + 1, by go_num, by omega, by rw [HN.out]; exact O2.out, GB2.out⟩
          case measure => simp [intOf]; omega
    · have hb3 : ¬ (b : Int) < 256 := by omega
      have ho : OwnI wr w.heap.size u5 (ints (pl t)) := by
        have h := hown
        rw [show b = 256 by omega] at h
        exact h
      obtain ⟨g, cap, rfl, hcap, hI⟩ := ho.ints
      have HI := hideO hI
      rw [ints_len, pl_len] at hcap ⊢
      obtain ⟨w1, hw1⟩ : ∃ w1, w1 = wr := ⟨_, rfl⟩
      rw [← hw1] at HI GB hsz ⊢
      clear hown ho hI O1 hw1 hb2 hb
      go_wp2_with fail
      go_loopw [9, 8, 1] (fun i u m wr => ∃ k : Nat, i = .int .i64 k ∧ k ≤ t.size ∧ m = .int .i64 (itR t a k : Nat) ∧ Own0B wr (w1.heap.size + 1) u (blK t a k) ∧ w1.heap.size < wr.heap.size ∧ Below w1.heap.size w1 wr) (fun i _ _ _ => t.size - (intOf i).toNat)
      case atStart => exact ⟨0, rfl, Nat.zero_le _, rfl, .inl ⟨_, rfl, rfl, rfl⟩, by simp, (Below.refl _ _).alloc (Nat.le_refl _) _⟩
      case round =>
        obtain ⟨k, rfl, hk, rfl, hown, hgs, hbel⟩ := hrel
        have O1 := hideO hown
        have GB3 := hideO hbel
        clear hbel
        by_cases hlt : k < t.size
        · have hd0 : decide ((k : Int) < (t.size : Int)) = true := decide_eq_true (by omega)
          have hkz : (k : Int) < (t.size : Int) := by omega
          have hat : a < t.size := by omega
          have hr1 := itR_lt t a k hat
          have hr2 := itR_lt t a (k + 1) hat
          have e0 : itR t a (k + 1) = plF t (itR t a k) := rfl
          have hpl : (ints (pl t)).length = t.size := by rw [ints_len, pl_len]
          obtain ⟨gb, off, rfl, hb, hc⟩ := (HI.out.below GB3.out).some (by omega)
          have c1 := hc (itR t a k) (by omega)
          have ey : (ints (pl t))[itR t a k]'(by omega) = ((itR t a (k + 1) : Nat) : Int) := by
            rw [e0, ← plF_get t _ (by rw [pl_len]; exact hr1)]
            simp [ints]
          rw [ey] at c1
          have HN := hideO (blK_snoc t a k)
          obtain ⟨p, hp⟩ : ∃ p, p = itR t a k := ⟨_, rfl⟩
          obtain ⟨q, hq⟩ : ∃ q, q = itR t a (k + 1) := ⟨_, rfl⟩
          have HQ := hideO hq
          rw [← hp, ← hq] at c1
          rw [← hq] at hr2 HN
          rw [← hp] at hr1 ⊢
          have hpz : (p : Int) < (t.size : Int) := by omega
          have hqz : (q : Int) < (t.size : Int) := by omega
          obtain ⟨y, hy, hyt⟩ : ∃ y : UInt8, t[q] = y ∧ y.toNat = bt t q := ⟨_, rfl, bt_get _ _ hr2⟩
          rw [← hyt] at HN
          have HBL := hideO (blK_len t a k)
          have HY := hideO (UInt8.toNat_lt y)
          obtain ⟨bs, hbs⟩ : ∃ bs, bs = blK t a k := ⟨_, rfl⟩
          rw [← hbs] at O1 HN HBL
          clear hc ey hown e0 hp hq hyt hbs hpl ha
          go_wp2_with (at_builtin; refine wpList_append_own0 _ rfl (.tmp 42) (.tmp 46) 22 rfl (w1.heap.size + 1) 5 i0 (.int .u8 0) 1 1 Try.underlying22 hi0 hz0 hz1 hz2 rfl (by decide) _ bs.length (bs.map bv) rfl (Own0.alloc O1.out _) ⟨wr.heap.size, 0, none⟩ 1 1 [.int .u8 (y.toNat : Nat)] rfl rfl (one_newB _ _ _) (one_cellB _) (by decide) (by unfold maxLen; have := HBL.out; omega) (by have := HBL.out; omega) (by simp; omega) ?_)
          intro v' w5 hown' hb5
          have N5 := hideO (own0B_snoc (by omega) (by have := HY.out; omega) hown')
          have ba : Below (w1.heap.size + 1) wr w5 := ((Below.refl (w1.heap.size + 1) wr).alloc (by omega) _).trans (hb5 _ (Nat.le_refl _))
          have B5 := hideO (GB3.out.trans (ba.mono (by omega)))
          have z5 := ba.size
          clear hown' hb5 ba c1
          go_wp2_with fail
          go_roundw
          case rel => exact ⟨k + 1, by go_num, by omega, by rw [← HQ.out], by rw [HN.out]; exact N5.out, by omega, B5.out⟩
          case measure => simp [intOf]; omega
        · have hd0 : decide ((k : Int) < (t.size : Int)) = false := decide_eq_false (by omega)
          obtain rfl : k = t.size := by omega
          have hcv := own0_string (P := Try.prog) (src := 22) (dst := 9) _ hown Try.underlying22 Try.underlying5 Try.underlying9
          rw [blK_all] at hcv
          have BZ := hideO (GB.out.trans (GB3.out.mono hsz))
          generalize itR t a t.size = m
          clear hown ha
          go_wp2_with fail
          go_ret
          exact ⟨rfl, BZ.out⟩
end Go.Proofs.Ytmkpakhpjgocjaa.So
