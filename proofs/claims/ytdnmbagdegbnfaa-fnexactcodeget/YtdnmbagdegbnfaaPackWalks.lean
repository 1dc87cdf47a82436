/- The walks of both BitsPack. -/
import Derived.Test.YtdnmbagdegbnfaaPackPlain
import Derived.Test.YtdnmbagdegbnfaaBitWalks
import Derived.Laws.AppendOwn
import Derived.BigRegion
namespace Go.Proofs.Ytdnmbagdegbnfaa.Bi
open Go.RowKit
open Go.Proofs.Ytdnmbagdegbnfaa.Sh
open Go.Proofs.Ytdnmbagdegbnfaa.Nu (ret_strJ bv own_string app_below)

/-- a text's byte at a place, as a walk asks for it -/
theorem byte_at (t : ByteArray) (j : Nat) (h : j < t.size) : ∃ y : UInt8, t[j] = y ∧ y.toNat = bt t j := ⟨t[j], rfl, bt_get t j h⟩
theorem all_more (t : ByteArray) (k : Nat) (h : ∀ j, j < k → bt t j = 48 ∨ bt t j = 49) (hk : bt t k = 48 ∨ bt t k = 49) : ∀ j, j < k + 1 → bt t j = 48 ∨ bt t j = 49 := by
  intro j hj
  by_cases e : j = k
  · rw [e]; exact hk
  · exact h j (by omega)

set_option maxHeartbeats 1000000 in
theorem good_impl (t : ByteArray) (w : World) (ht : t.size ≤ 1048576) :
    Calls Try.prog 87 #[.string t] w fun e w' => e = .returned (.bool (good t)) ∧ w' = w := by
  go_enter Try.func87, Try.ntmps87
  go_wp2_with fail
  go_loopw [6] (fun i wr => ∃ k : Nat, i = .int .i64 k ∧ k ≤ t.size ∧ (∀ j, j < k → bt t j = 48 ∨ bt t j = 49) ∧ wr = w) (fun i _ => t.size - (intOf i).toNat)
  case atStart => exact ⟨0, rfl, Nat.zero_le _, fun j hj => absurd hj (Nat.not_lt_zero j), rfl⟩
  case round =>
    obtain ⟨k, rfl, hk, hall, hw⟩ := hrel
    subst hw
    have HA := hideB hall
    clear hall
    by_cases hlt : k < t.size
    · obtain ⟨y, b0, hy⟩ := byte_at t k hlt
      have HY := hideB hy
      by_cases e8 : (y.toNat : Int) = 48
      · have n8 : ((y.toNat : Int) != 48) = false := by rw [e8]; rfl
        have HM : Hid (∀ j, j < k + 1 → bt t j = 48 ∨ bt t j = 49) := all_more t k HA.out (by rw [← HY.out]; omega)
        clear hy e8
        go_wp2_with fail
        go_roundw
        case rel => exact ⟨k + 1, by go_num, by omega, HM.out, trivial⟩
        case measure => simp [intOf]; omega
      · have n8 : ((y.toNat : Int) != 48) = true := by rw [bne_iff_ne]; exact e8
        by_cases e9 : (y.toNat : Int) = 49
        · have n9 : ((y.toNat : Int) != 49) = false := by rw [e9]; rfl
          have HM : Hid (∀ j, j < k + 1 → bt t j = 48 ∨ bt t j = 49) := all_more t k HA.out (by rw [← HY.out]; omega)
          clear hy e8 e9
          go_wp2_with fail
          go_roundw
          case rel => exact ⟨k + 1, by go_num, by omega, HM.out, trivial⟩
          case measure => simp [intOf]; omega
        · have n9 : ((y.toNat : Int) != 49) = true := by rw [bne_iff_ne]; exact e9
          have HN := hideB (good_not hlt (by rw [← HY.out]; omega) (by rw [← HY.out]; omega))
          clear hy e8 e9
          go_wp2_with fail
          go_ret
          exact ⟨ret_boolB HN.out.symm, rfl⟩
    · have HG := hideB (good_of (t := t) (fun j hj => HA.out j (by omega)))
      go_wp2_with fail
      go_ret
      exact ⟨ret_boolB HG.out.symm, rfl⟩

set_option maxHeartbeats 1000000 in
theorem good_spec (t : ByteArray) (w : World) (ht : t.size ≤ 1048576) :
    Calls Try.prog 92 #[.string t] w fun e w' => e = .returned (.bool (good t)) ∧ w' = w := by
  go_enter Try.func92, Try.ntmps92
  go_wp2_with fail
  go_loopw [3] (fun i wr => ∃ k : Nat, i = .int .i64 k ∧ k ≤ t.size ∧ (∀ j, j < k → bt t j = 48 ∨ bt t j = 49) ∧ wr = w) (fun i _ => t.size - (intOf i).toNat)
  case atStart => exact ⟨0, rfl, Nat.zero_le _, fun j hj => absurd hj (Nat.not_lt_zero j), rfl⟩
  case round =>
    obtain ⟨k, rfl, hk, hall, hw⟩ := hrel
    subst hw
    have HA := hideB hall
    clear hall
    by_cases hlt : k < t.size
    · obtain ⟨y, b0, hy⟩ := byte_at t k hlt
      have HY := hideB hy
      by_cases e8 : (y.toNat : Int) = 48
      · have n8 : ((y.toNat : Int) != 48) = false := by rw [e8]; rfl
        have HM : Hid (∀ j, j < k + 1 → bt t j = 48 ∨ bt t j = 49) := all_more t k HA.out (by rw [← HY.out]; omega)
        clear hy e8
        go_wp2_with fail
        go_roundw
        case rel => exact ⟨k + 1, by go_num, by omega, HM.out, trivial⟩
        case measure => simp [intOf]; omega
      · have n8 : ((y.toNat : Int) != 48) = true := by rw [bne_iff_ne]; exact e8
        by_cases e9 : (y.toNat : Int) = 49
        · have n9 : ((y.toNat : Int) != 49) = false := by rw [e9]; rfl
          have HM : Hid (∀ j, j < k + 1 → bt t j = 48 ∨ bt t j = 49) := all_more t k HA.out (by rw [← HY.out]; omega)
          clear hy e8 e9
          go_wp2_with fail
          go_roundw
          case rel => exact ⟨k + 1, by go_num, by omega, HM.out, trivial⟩
          case measure => simp [intOf]; omega
        · have n9 : ((y.toNat : Int) != 49) = true := by rw [bne_iff_ne]; exact e9
          have HN := hideB (good_not hlt (by rw [← HY.out]; omega) (by rw [← HY.out]; omega))
          clear hy e8 e9
          go_wp2_with fail
          go_ret
          exact ⟨ret_boolB HN.out.symm, rfl⟩
    · have HG := hideB (good_of (t := t) (fun j hj => HA.out j (by omega)))
      go_wp2_with fail
      go_ret
      exact ⟨ret_boolB HG.out.symm, rfl⟩

set_option maxRecDepth 100000 in
set_option maxHeartbeats 2000000 in
theorem pack_yes (t : ByteArray) (w : World) (ht : ¬ 8000 < t.size) (hg : good t = true) :
    Calls Try.prog 28 #[.string t] w fun e w' => e = .returned (.string (packV t)) ∧ Below w.heap.size w w' := by
  obtain ⟨i0, hi, hz0, hz1, hz2⟩ := info_parts Nu.Try.infoJ5
  obtain ⟨m, hm⟩ : ∃ m, m = (t.size + 7) / 8 := ⟨_, rfl⟩
  have hmi : ((t.size : Int) + 8 - 1) / 8 = (m : Int) := by omega
  have HMM := hideB hm
  have HMI := hideB hmi
  have hd8 : decide (8000 < (t.size : Int)) = false := decide_eq_false (by omega)
  clear hmi
  have HG := hideB (good_impl t w (by omega))
  rw [hg] at HG
  have HA := hideB (good_yes hg)
  clear hm hg
  have hm2 : m ≤ 1001 := by have := HMM.out; omega
  go_enter Try.func28, Try.ntmps28
  go_wp2_with fail
  refine HG.out.mono ?_
  rintro e w' ⟨rfl, hw⟩
  subst w'
  go_wp2_with (at_make; refine wpList_make_full _ rfl (.tmp 17) (.tmp 17) 22 rfl w.heap.size 5 i0 (.int .u8 0) 1 Try.underlying22 hi hz0 hz1 .i64 .i64 _ _ m rfl rfl HMI.out HMI.out (by rw [hz2]; omega) (by unfold maxLen; omega) (Nat.le_refl _) ?_; intro w1 hown1 hgrow1; have HR := hideB (made_row hown1); have HB := hideB ((Below.refl w.heap.size w).grown hgrow1 (Nat.le_refl _) (by simp)); clear hown1 hgrow1)
  go_loopw [21] (fun i wr => ∃ k : Nat, i = .int .i64 k ∧ k ≤ t.size ∧ IsB wr w.heap.size 5 .u8 m (fun j => (pkK t k j : Nat)) ∧ Below w.heap.size w wr) (fun i _ => t.size - (intOf i).toNat)
  case atStart => exact ⟨0, rfl, by omega, IsB.congr HR.out (fun j hj => by rw [pkK_zero]; rfl), HB.out⟩
  case round =>
    obtain ⟨k, rfl, hk, hr, hbel⟩ := hrel
    have HR2 := hideB hr
    by_cases hlt : k < t.size
    · obtain ⟨y, b0, hy⟩ := byte_at t k hlt
      have h01 := HA.out k hlt
      rw [← hy] at h01
      have HY := hideB hy
      clear hy
      by_cases e9 : (y.toNat : Int) = 49
      · have n9 : ((y.toNat : Int) == 49) = true := by rw [e9]; rfl
        have HO : Hid (one t k = 1) := by
          unfold Hid one
          rw [if_pos ⟨hlt, by rw [← HY.out]; omega⟩]
        obtain ⟨q, hq⟩ : ∃ q : Nat, q = k / 8 := ⟨_, rfl⟩
        obtain ⟨r, hrr⟩ : ∃ r : Nat, r = k % 8 := ⟨_, rfl⟩
        have hqi : (k : Int) / 8 = q := by omega
        have hri : (k : Int) % 8 = r := by omega
        have hqm : q < m := by have := HMM.out; omega
        have hr8 : r < 8 := by omega
        have ce := hr.cell (j := q) hqm
        have cf := hr.frozen q
        obtain ⟨s, hs⟩ : ∃ s : Nat, s = 7 - r := ⟨_, rfl⟩
        have hsi : (7 : Int) - r = s := by omega
        have HV : Hid (bits BinOp.or IntKind.u8 ((pkK t k q : Nat) : Int) ((2 : Int) ^ s) = ((pk t (k / 8) (k % 8) + 2 ^ (7 - k % 8) : Nat) : Int)) := by
          unfold Hid
          rw [hq, pkK_here, ← hrr, ← hs]
          have := pk_or t (k / 8) r hr8
          rw [← hs] at this
          rw [← this]
          simp
        have hpw : (2 : Int) ^ s < 256 := by
          have := Nat.pow_le_pow_right (n := 2) (by decide) (show s ≤ 7 by omega)
          have hcast : ((2 ^ s : Nat) : Int) = (2 : Int) ^ s := by simp
          omega
        have hpw0 : (0 : Int) < (2 : Int) ^ s := by
          have := Nat.pow_pos (n := s) (a := 2) (by decide)
          have hcast : ((2 ^ s : Nat) : Int) = (2 : Int) ^ s := by simp
          omega
        have HQ := hideB hq
        clear hr e9 h01 hq hrr hs
        generalize pkK t k q = pv at ce HV
        go_wp2_with fail
        go_region
        all_goals (try go_wp2_with fail)
        all_goals go_roundw
        case rel => exact ⟨k + 1, by go_num, by omega, IsB.congr (HR2.out.set q _) (fun j hj => by rw [HQ.out]; exact pkK_set t k j _ HO.out HV.out), Below.drew (hbel.setCell (Nat.le_refl _) _)⟩
        case measure => simp [intOf]; omega
      · have n9 : ((y.toNat : Int) == 49) = false := by rw [beq_eq_false_iff_ne]; exact e9
        have HO : Hid (one t k = 0) := by
          unfold Hid one
          rw [if_neg (by rw [← HY.out]; omega)]
        clear hr e9 h01
        go_wp2_with fail
        go_roundw
        case rel => exact ⟨k + 1, by go_num, by omega, IsB.congr HR2.out (fun j hj => pkK_skip t k j HO.out), hbel⟩
        case measure => simp [intOf]; omega
    · obtain rfl : k = t.size := by omega
      have hcv := hr.str (P := Try.prog) (src := 22) (dst := 9) m m (Nat.le_refl _) (fun j _ => pkK_lt t t.size j) Try.underlying22 Try.underlying5 Try.underlying9
      rw [HMM.out, pack_all, ← HMM.out] at hcv
      clear hr
      go_wp2_with fail
      go_ret
      exact ⟨rfl, hbel⟩

set_option maxHeartbeats 1000000 in
theorem pack_impl (t : ByteArray) (w : World) (ht : t.size ≤ 1048576) :
    Calls Try.prog 28 #[.string t] w fun e w' => e = .returned (.string (packR t)) ∧ Below w.heap.size w w' := by
  by_cases h : 8000 < t.size
  · have HE := hideB (packR_no t (Or.inl h))
    go_enter Try.func28, Try.ntmps28
    go_wp2_with fail
    go_ret
    exact ⟨ret_strJ HE.out.symm, Below.refl _ _⟩
  · cases hg : good t with
    | false =>
      have HE := hideB (packR_no t (Or.inr hg))
      have HG := hideB (good_impl t w (by omega))
      rw [hg] at HG
      go_enter Try.func28, Try.ntmps28
      go_wp2_with fail
      refine HG.out.mono ?_
      rintro e w' ⟨rfl, hw⟩
      subst w'
      go_wp2_with fail
      go_ret
      exact ⟨ret_strJ HE.out.symm, Below.refl _ _⟩
    | true =>
      rw [packR_yes t h hg]
      exact pack_yes t w h hg
end Go.Proofs.Ytdnmbagdegbnfaa.Bi
