/- Texts put together: WholeSpec, StrEq, Mark, Held. -/
import Derived.Test.YtjdlgpnhkfdehaaGreatDoorBu7
import Derived.Test.YtjdlgpnhkfdehaaGreatDoorBu21
import Derived.Test.YtjdlgpnhkfdehaaGreatDoorBu2
import Derived.BigRegion
import Derived.BigQuiet
import Derived.Deep.QuietTactic
import Derived.Deep.RegionWith
/- The walks of the specification's helpers on lengths, of both Whole, and of the law. -/
namespace Go.Proofs.YtjdlgpnhkfdehaaGreatDoor.Bi
open Go.RowKit
open Go.Proofs.YtjdlgpnhkfdehaaGreatDoor.In (Ints)
def sumR (l : List Int) : Int × Int := if right l = true then ((csum l : Nat), (above l : Nat)) else (-1, 0)
theorem sumR_yes {l : List Int} (h : right l = true) : sumR l = (((csum l : Nat) : Int), ((above l : Nat) : Int)) := if_pos h
theorem sumR_no {l : List Int} (h : right l = false) : sumR l = (-1, 0) := if_neg (by rw [h]; decide)
theorem good12 {l : List Int} {k : Nat} (hk : l.length ≤ k) (h : ∀ j (hj : j < l.length), j < k → 0 ≤ l[j] ∧ l[j] ≤ 12) : ∀ x ∈ l, 0 ≤ x ∧ x ≤ 12 := by
  intro x hx
  obtain ⟨j, hj, rfl⟩ := List.getElem_of_mem hx
  exact h j hj (by omega)
theorem good_more {l : List Int} {k : Nat} (hk : k < l.length) (h : ∀ j (hj : j < l.length), j < k → 0 ≤ l[j] ∧ l[j] ≤ 12) (h2 : 0 ≤ l[k] ∧ l[k] ≤ 12) : ∀ j (hj : j < l.length), j < k + 1 → 0 ≤ l[j] ∧ l[j] ≤ 12 := by
  intro j hj hjk
  by_cases e : j = k
  · subst e; exact h2
  · exact h j hj (by omega)
set_option maxHeartbeats 2000000 in
theorem sum_spec (l : List Int) (a : Option Addr) (cap B : Nat) (w : World) (hi : Ints w B a l) (hn : l.length ≤ 400) :
    Calls Tryz.prog 222 #[.slice a l.length cap] w fun e w' => e = .returned (.tuple #[.int .i64 (sumR l).1, .int .i64 (sumR l).2]) ∧ w' = w := by
  have HS := hideB hi
  clear hi
  obtain ⟨n, hln⟩ : ∃ n, n = l.length := ⟨_, rfl⟩
  have HLN := hideB hln
  rw [← hln] at hn ⊢
  clear hln
  have HP12 := hideB (pow_any 12 w (by decide))
  obtain ⟨r, hr⟩ : ∃ r, r = sumR l := ⟨_, rfl⟩
  rw [← hr]
  have HR := hideB hr
  clear hr
  go_enter Tryz.func222, Tryz.ntmps222
  go_wp2_with fail
  go_loopw [6, 4, 5] (fun i v u wr => ∃ k s c : Nat, i = .int .i64 k ∧ v = .int .i64 s ∧ u = .int .i64 c ∧ k ≤ n ∧ s = csum (l.take k) ∧ c = above (l.take k) ∧ s ≤ 4096 * k ∧ c ≤ k ∧ (∀ j (hj : j < l.length), j < k → 0 ≤ l[j] ∧ l[j] ≤ 12) ∧ wr = w) (fun i _ _ _ => n - (intOf i).toNat)
  case atStart => exact ⟨0, 0, 0, rfl, rfl, rfl, Nat.zero_le _, by simp [csum], by simp [above], by omega, by omega, fun j hj h0 => absurd h0 (Nat.not_lt_zero j), rfl⟩
  case round =>
    obtain ⟨k, s, c, rfl, rfl, rfl, hk, hs, hc', hsb, hcb, hall, hw⟩ := hrel
    subst hw
    have HC := hideB hs
    have HD := hideB hc'
    have HA := hideB hall
    clear hs hc' hall
    by_cases hlt : k < n
    · have hkl : k < l.length := by rw [← HLN.out]; exact hlt
      obtain ⟨b, off, rfl, hb, hc⟩ := HS.out.some (by omega)
      have ci := hc k hkl
      have HM := hideB (csum_more hkl)
      have HM' := hideB (above_more hkl)
      have HGM := hideB (good_more hkl HA.out)
      obtain ⟨x, hx⟩ : ∃ x, x = l[k] := ⟨_, rfl⟩
      have HX := hideB hx
      rw [← hx] at ci HM HM' HGM
      clear hc hx
      by_cases h0 : 0 ≤ x ∧ x ≤ 12
      · have HI := hideB (is_yes x 0 12 wr h0.1 h0.2)
        by_cases hpos : 0 < x
        · obtain ⟨m, rfl, hm1, hm2, hp⟩ := part_pos x hpos h0.2
          obtain ⟨d, hd⟩ : ∃ d : Nat, d = 12 - m := ⟨_, rfl⟩
          have hdi : (12 : Int) - m = d := by omega
          have HQ := hideB (pow_any d wr (by omega))
          rw [← hd] at hp
          have hp2 : 2 ^ d ≤ 4096 := by have := part_le (m : Int); rw [hp] at this; exact this
          have HP := hideB hp
          have HM2 : Hid (above (l.take (k + 1)) = c + 1) := by
            unfold Hid
            rw [HM'.out, if_pos hpos, HD.out]
          clear hp hd
          generalize 2 ^ d = pm at hp2 HP HQ
          go_wp2_with fail
          refine HI.out.mono ?_
          rintro e w' ⟨rfl, hw⟩
          subst w'
          go_wp2_with fail
          refine HQ.out.mono ?_
          rintro e w' ⟨rfl, hw⟩
          subst w'
          go_wp2_with fail
          go_roundw
          case rel => exact ⟨k + 1, s + pm, c + 1, by go_num, by go_num, by go_num, by omega, by rw [HM.out, HP.out, HC.out], HM2.out.symm, by omega, by omega, HGM.out h0, trivial⟩
          case measure => simp [intOf]; omega
        · have HP := hideB (part_none x hpos)
          have HM2 : Hid (above (l.take (k + 1)) = c) := by
            unfold Hid
            rw [HM'.out, if_neg hpos, HD.out]
            rfl
          go_wp2_with fail
          refine HI.out.mono ?_
          rintro e w' ⟨rfl, hw⟩
          subst w'
          go_wp2_with fail
          go_roundw
          case rel => exact ⟨k + 1, s, c, by go_num, rfl, rfl, by omega, by rw [HM.out, HP.out, HC.out]; rfl, HM2.out.symm, by omega, by omega, HGM.out h0, trivial⟩
          case measure => simp [intOf]; omega
      · have HI := hideB (is_no x 0 12 wr (by omega))
        have HE : Hid (r = (-1, 0)) := by
          unfold Hid
          rw [HR.out]
          exact sumR_no (right_no (Or.inl (within_bad (m := 12) hkl (by rw [← HX.out]; omega))))
        clear h0
        go_wp2_with fail
        refine HI.out.mono ?_
        rintro e w' ⟨rfl, hw⟩
        subst w'
        go_wp2_with fail
        go_ret2
        exact ⟨by rw [HE.out]; rfl, rfl⟩
    · have HS2 : Hid (s = csum l) := by
        unfold Hid
        rw [HC.out, List.take_of_length_le (by have := HLN.out; omega)]
      have HC2 : Hid (c = above l) := by
        unfold Hid
        rw [HD.out, List.take_of_length_le (by have := HLN.out; omega)]
      have HG := hideB (good12 (by have := HLN.out; omega) HA.out)
      by_cases hlong : 257 < n
      · have HE : Hid (r = (-1, 0)) := by
          unfold Hid
          rw [HR.out]
          exact sumR_no (right_no (Or.inl (within_long (by have := HLN.out; omega))))
        have hl' : (257 : Int) < n := by omega
        go_wp2_with fail
        go_ret2
        exact ⟨by rw [HE.out]; rfl, rfl⟩
      · have hl' : decide ((257 : Int) < n) = false := decide_eq_false (by omega)
        have HW : Hid (within l 12 = true) := within_of (by have := HLN.out; omega) HG.out
        by_cases hbig : 4096 < s
        · have HE : Hid (r = (-1, 0)) := by
            unfold Hid
            rw [HR.out]
            exact sumR_no (right_no (Or.inr (by rw [← HS2.out]; omega)))
          go_wp2_with fail
          refine HP12.out.mono ?_
          rintro e w' ⟨rfl, hw⟩
          subst w'
          go_wp2_with fail
          go_ret2
          exact ⟨by rw [HE.out]; rfl, rfl⟩
        · have HE : Hid (r = ((s : Int), (c : Int))) := by
            unfold Hid
            rw [HR.out, HS2.out, HC2.out]
            exact sumR_yes (right_of HW.out (by rw [← HS2.out]; omega))
          have hb' : decide ((4096 : Int) < s) = false := decide_eq_false (by omega)
          go_wp2_with fail
          refine HP12.out.mono ?_
          rintro e w' ⟨rfl, hw⟩
          subst w'
          go_wp2_with fail
          go_ret2
          exact ⟨by rw [HE.out]; rfl, rfl⟩
theorem whole_yes1 {l : List Int} (h : right l = true) (h1 : csum l = 4096) : whole l = true := by unfold whole; rw [h, decide_eq_true h1]; rfl
theorem whole_yes2 {l : List Int} (h : right l = true) (h1 : above l = 1) (h2 : csum l = 2048) : whole l = true := by unfold whole; rw [h, decide_eq_true h1, decide_eq_true h2]; simp
theorem whole_no1 {l : List Int} (h1 : ¬ csum l = 4096) (h2 : ¬ above l = 1) : whole l = false := by unfold whole; rw [decide_eq_false h1, decide_eq_false h2]; simp
theorem whole_no2 {l : List Int} (h1 : ¬ csum l = 4096) (h2 : ¬ csum l = 2048) : whole l = false := by unfold whole; rw [decide_eq_false h1, decide_eq_false h2]; simp
set_option maxHeartbeats 2000000 in
theorem l04Whole_any (l : List Int) (a : Option Addr) (cap B : Nat) (w : World) (hi : Ints w B a l) (hn : l.length ≤ 400) :
    Calls Tryz.prog 176 #[.slice a l.length cap] w fun e w' => e = .returned (.bool (whole l)) ∧ w' = w := by
  have HS := hideB (sum_spec l a cap B w hi hn)
  have HP12 := hideB (pow_any 12 w (by decide))
  have HP11 := hideB (pow_any 11 w (by decide))
  clear hi
  cases hr : right l with
  | false =>
    have HE := hideB (whole_no hr)
    rw [sumR_no hr] at HS
    generalize l.length = n at HS hn ⊢
    generalize whole l = wl at HE ⊢
    go_enter Tryz.func176, Tryz.ntmps176
    go_wp2_with fail
    refine HS.out.mono ?_
    rintro e w' ⟨rfl, hw⟩
    subst w'
    go_wp2_with fail
    refine HP12.out.mono ?_
    rintro e w' ⟨rfl, hw⟩
    subst w'
    go_wp2_with fail
    go_ret
    exact ⟨ret_boolB HE.out.symm, rfl⟩
  | true =>
    rw [sumR_yes hr] at HS
    by_cases h1 : csum l = 4096
    · have HE := hideB (whole_yes1 hr h1)
      rw [h1] at HS
      generalize l.length = n at HS hn ⊢
      generalize whole l = wl at HE ⊢
      generalize above l = ab at HS
      clear h1
      go_enter Tryz.func176, Tryz.ntmps176
      go_wp2_with fail
      refine HS.out.mono ?_
      rintro e w' ⟨rfl, hw⟩
      subst w'
      go_wp2_with fail
      refine HP12.out.mono ?_
      rintro e w' ⟨rfl, hw⟩
      subst w'
      go_wp2_with fail
      go_ret
      exact ⟨ret_boolB HE.out.symm, rfl⟩
    · by_cases h2 : above l = 1
      · by_cases h3 : csum l = 2048
        · have HE := hideB (whole_yes2 hr h2 h3)
          rw [h3, h2] at HS
          generalize l.length = n at HS hn ⊢
          generalize whole l = wl at HE ⊢
          clear h1 h2 h3
          go_enter Tryz.func176, Tryz.ntmps176
          go_wp2_with fail
          refine HS.out.mono ?_
          rintro e w' ⟨rfl, hw⟩
          subst w'
          go_wp2_with fail
          refine HP12.out.mono ?_
          rintro e w' ⟨rfl, hw⟩
          subst w'
          go_wp2_with fail
          refine HP11.out.mono ?_
          rintro e w' ⟨rfl, hw⟩
          subst w'
          go_wp2_with fail
          go_ret
          exact ⟨ret_boolB HE.out.symm, rfl⟩
        · have HE := hideB (whole_no2 h1 h3)
          rw [h2] at HS
          have g1 : (((csum l : Nat) : Int) == 4096) = false := beq_eq_false_iff_ne.2 (by omega)
          have g3 : (((csum l : Nat) : Int) == 2048) = false := beq_eq_false_iff_ne.2 (by omega)
          generalize l.length = n at HS hn ⊢
          generalize whole l = wl at HE ⊢
          generalize csum l = cs at HS g1 g3
          clear h1 h2 h3
          go_enter Tryz.func176, Tryz.ntmps176
          go_wp2_with fail
          refine HS.out.mono ?_
          rintro e w' ⟨rfl, hw⟩
          subst w'
          go_wp2_with fail
          refine HP12.out.mono ?_
          rintro e w' ⟨rfl, hw⟩
          subst w'
          go_wp2_with fail
          refine HP11.out.mono ?_
          rintro e w' ⟨rfl, hw⟩
          subst w'
          go_wp2_with fail
          go_ret
          exact ⟨ret_boolB HE.out.symm, rfl⟩
      · have HE := hideB (whole_no1 h1 h2)
        have g1 : (((csum l : Nat) : Int) == 4096) = false := beq_eq_false_iff_ne.2 (by omega)
        have g2 : (((above l : Nat) : Int) == 1) = false := beq_eq_false_iff_ne.2 (by omega)
        generalize l.length = n at HS hn ⊢
        generalize whole l = wl at HE ⊢
        generalize csum l = cs at HS g1
        generalize above l = ab at HS g2
        clear h1 h2
        go_enter Tryz.func176, Tryz.ntmps176
        go_wp2_with fail
        refine HS.out.mono ?_
        rintro e w' ⟨rfl, hw⟩
        subst w'
        go_wp2_with fail
        refine HP12.out.mono ?_
        rintro e w' ⟨rfl, hw⟩
        subst w'
        go_wp2_with fail
        go_ret
        exact ⟨ret_boolB HE.out.symm, rfl⟩
set_option maxHeartbeats 2000000 in
theorem whole_impl (l : List Int) (a : Option Addr) (cap B : Nat) (w : World) (hi : Ints w B a l) (hn : l.length ≤ 1048576) :
    Calls Tryz.prog 163 #[.slice a l.length cap] w fun e w' => e = .returned (.bool (whole l)) ∧ w' = w := by
  have HR := hideB (right_impl l a cap B w hi hn)
  have HC := hideB (count_impl l a cap B w hi hn)
  have HK := hideB (contains_impl l 1 a cap B w hi hn)
  cases hr : right l with
  | false =>
    have HE := hideB (whole_no hr)
    rw [hr] at HR
    clear hi
    generalize l.length = n at HR hn ⊢
    generalize whole l = wl at HE ⊢
    go_enter Tryz.func163, Tryz.ntmps163
    go_wp2_with fail
    refine HR.out.mono ?_
    rintro e w' ⟨rfl, hw⟩
    subst w'
    go_wp2_with fail
    go_ret
    exact ⟨ret_boolB HE.out.symm, rfl⟩
  | true =>
    have HS := hideB (sum_impl l a cap B w hi (right_yes hr).1)
    rw [hr] at HR
    clear hi
    by_cases h2 : above l = 1
    · rw [alone l h2] at HK
      rw [h2] at HC
      by_cases h3 : csum l = 2048
      · have HE := hideB (whole_yes2 hr h2 h3)
        rw [decide_eq_true h3] at HK
        generalize l.length = n at HR HC HK HS hn ⊢
        generalize whole l = wl at HE ⊢
        clear h2 h3 hr HS
        go_enter Tryz.func163, Tryz.ntmps163
        go_wp2_with fail
        refine HR.out.mono ?_
        rintro e w' ⟨rfl, hw⟩
        subst w'
        go_wp2_with fail
        refine HC.out.mono ?_
        rintro e w' ⟨rfl, hw⟩
        subst w'
        go_wp2_with fail
        refine HK.out.mono ?_
        rintro e w' ⟨rfl, hw⟩
        subst w'
        go_wp2_with fail
        go_ret
        exact ⟨ret_boolB HE.out.symm, rfl⟩
      · have HE : Hid (whole l = decide (csum l = 4096)) := by
          unfold Hid
          by_cases h4 : csum l = 4096
          · rw [whole_yes1 hr h4, decide_eq_true h4]
          · rw [whole_no2 h4 h3, decide_eq_false h4]
        rw [decide_eq_false h3] at HK
        have HD : Hid (((((csum l : Nat) : Int)) == 4096) = decide (csum l = 4096)) := by
          unfold Hid
          rw [Bool.eq_iff_iff]
          simp
          omega
        generalize decide (csum l = 4096) = dc at HE HD
        generalize l.length = n at HR HC HK HS hn ⊢
        generalize whole l = wl at HE ⊢
        generalize csum l = cs at HS HD
        clear h2 h3 hr
        go_enter Tryz.func163, Tryz.ntmps163
        go_wp2_with fail
        refine HR.out.mono ?_
        rintro e w' ⟨rfl, hw⟩
        subst w'
        go_wp2_with fail
        refine HC.out.mono ?_
        rintro e w' ⟨rfl, hw⟩
        subst w'
        go_wp2_with fail
        refine HK.out.mono ?_
        rintro e w' ⟨rfl, hw⟩
        subst w'
        go_wp2_with fail
        refine HS.out.mono ?_
        rintro e w' ⟨rfl, hw⟩
        subst w'
        go_wp2_with fail
        go_ret
        exact ⟨ret_boolB (HD.out.trans HE.out.symm), rfl⟩
    · have HE : Hid (whole l = decide (csum l = 4096)) := by
        unfold Hid
        by_cases h4 : csum l = 4096
        · rw [whole_yes1 hr h4, decide_eq_true h4]
        · rw [whole_no1 h4 h2, decide_eq_false h4]
      have g2 : (((above l : Nat) : Int) == 1) = false := beq_eq_false_iff_ne.2 (by omega)
      have HD : Hid (((((csum l : Nat) : Int)) == 4096) = decide (csum l = 4096)) := by
        unfold Hid
        rw [Bool.eq_iff_iff]
        simp
        omega
      generalize decide (csum l = 4096) = dc at HE HD
      generalize l.length = n at HR HC HK HS hn ⊢
      generalize whole l = wl at HE ⊢
      generalize csum l = cs at HS HD
      generalize above l = ab at HC g2
      clear h2 hr HK
      go_enter Tryz.func163, Tryz.ntmps163
      go_wp2_with fail
      refine HR.out.mono ?_
      rintro e w' ⟨rfl, hw⟩
      subst w'
      go_wp2_with fail
      refine HC.out.mono ?_
      rintro e w' ⟨rfl, hw⟩
      subst w'
      go_wp2_with fail
      refine HS.out.mono ?_
      rintro e w' ⟨rfl, hw⟩
      subst w'
      go_wp2_with fail
      go_ret
      exact ⟨ret_boolB (HD.out.trans HE.out.symm), rfl⟩
end Go.Proofs.YtjdlgpnhkfdehaaGreatDoor.Bi


/- The laws' own look whether two rows of texts are alike. -/
namespace Go.Proofs.YtjdlgpnhkfdehaaGreatDoor.St
open Go.RowKit
end Go.Proofs.YtjdlgpnhkfdehaaGreatDoor.St


/- The laws' marks: the text of a mark, marks written into a row of texts, marks found again. -/
namespace Go.Proofs.YtjdlgpnhkfdehaaGreatDoor.St
open Go.RowKit
def dg (k : Nat) (o : ByteArray) : ByteArray := if _h : k = 0 then o else dg (k / 10) (⟨#[UInt8.ofNat (48 + k % 10)]⟩ ++ o)
termination_by k
decreasing_by omega
def markT (k : Nat) : ByteArray := ⟨#[109]⟩ ++ dg k ⟨#[]⟩
def marks (k n : Nat) : List ByteArray := (List.range n).map fun j => markT (k + j)
def mmid (l : List ByteArray) (k i : Nat) : List ByteArray := marks k i ++ l.drop i
end Go.Proofs.YtjdlgpnhkfdehaaGreatDoor.St


/- The laws' marks found again; an empty row too. -/
namespace Go.Proofs.YtjdlgpnhkfdehaaGreatDoor.St
open Go.RowKit
end Go.Proofs.YtjdlgpnhkfdehaaGreatDoor.St

