/- Texts put together: IntHeld, IntIn, WholeSpec. -/
import Derived.Test.YtmkpakhpjgocjaaCz2
import Derived.Test.YtmkpakhpjgocjaaCz5
/- The laws' marks found again; an empty row too. -/
namespace Go.Proofs.Ytmkpakhpjgocjaa.In
open Go.RowKit

theorem mark_none (a : Option Addr) (c : Nat) (w : World) :
    Calls Try.prog 55 #[.slice a 0 c, .int .i64 1] w fun e w' => e = .returned (.int .i64 1) ∧ w' = w := by
  go_enter Try.func55, Try.ntmps55
  go_wp2_with fail
  go_loopw [5, 1] (fun i kv wr => i = .int .i64 0 ∧ kv = .int .i64 1 ∧ wr = w) (fun _ _ _ => 0)
  case atStart => exact ⟨rfl, rfl, rfl⟩
  case round =>
    obtain ⟨rfl, rfl, hw⟩ := hrel
    subst hw
    go_wp2_with fail
    go_ret
    exact ⟨rfl, rfl⟩
theorem held_none (a : Option Addr) (c : Nat) (w : World) :
    Calls Try.prog 56 #[.slice a 0 c, .int .i64 1] w fun e w' => e = .returned (.int .i64 1) ∧ w' = w := by
  go_enter Try.func56, Try.ntmps56
  go_wp2_with fail
  go_loopw [5, 1] (fun i kv wr => i = .int .i64 0 ∧ kv = .int .i64 1 ∧ wr = w) (fun _ _ _ => 0)
  case atStart => exact ⟨rfl, rfl, rfl⟩
  case round =>
    obtain ⟨rfl, rfl, hw⟩ := hrel
    subst hw
    go_wp2_with fail
    go_ret
    exact ⟨rfl, rfl⟩

set_option maxRecDepth 100000 in
set_option maxHeartbeats 2000000 in
theorem held_any (g t c n : Nat) (w : World) (h : IsO w g t (marks 1 n)) (hn : n ≤ 1048576) :
    Calls Try.prog 56 #[.slice (some ⟨g, 0, none⟩) n c, .int .i64 1] w fun e w' => e = .returned (.int .i64 (1 + n)) ∧ Below w.heap.size w w' := by
  have HS := hideI h
  clear h
  go_enter Try.func56, Try.ntmps56
  go_wp2_with fail
  go_loopw [5, 1] (fun i kv wr => ∃ k : Nat, i = .int .i64 k ∧ kv = .int .i64 (1 + k) ∧ k ≤ n ∧ wr = w) (fun i _ _ => n - (intOf i).toNat)
  case atStart => exact ⟨0, rfl, rfl, by omega, rfl⟩
  case round =>
    obtain ⟨k, rfl, rfl, hk, hw⟩ := hrel
    subst hw
    by_cases hlt : k < n
    · have hkl : k < (marks 1 n).length := by rw [marks_length]; exact hlt
      have ce := HS.out.cell hkl
      rw [marks_get, show ((1 + k : Nat) : Int) = 1 + (k : Int) by omega] at ce
      go_wp2_with fail
      go_roundw
      case rel => exact ⟨k + 1, by go_num, by go_num, by omega, trivial⟩
      case measure => simp [intOf]; omega
    · have HKN : Hid ((1 : Int) + k = 1 + n) := by
        unfold Hid
        omega
      go_wp2_with fail
      go_ret
      exact ⟨by rw [← HKN.out]; rfl, Below.refl _ _⟩
end Go.Proofs.Ytmkpakhpjgocjaa.In

/- Rows of numbers between two marks of memory: what the laws' helpers do with them. -/
namespace Go.Proofs.Ytmkpakhpjgocjaa.In
open Go.RowKit
open Go.Proofs.Ytmkpakhpjgocjaa.St (Aft)

/-- a row of numbers in a block from lo on and below hi, or nil -/
def OwnIn (w : World) (lo hi : Nat) (v : Value) (l : List Int) : Prop :=
  (v = .slice none 0 0 ∧ l = []) ∨ ∃ g cap, v = .slice (some ⟨g, 0, none⟩) l.length cap ∧ lo ≤ g ∧ g < hi ∧ IsO w g 2 l
theorem OwnI.inn {w : World} {base : Nat} {v : Value} {l : List Int} (h : OwnI w base v l) : OwnIn w base w.heap.size v l := by
  rcases h.split with h | ⟨g, cap, hv, hg, _, ho⟩
  · exact .inl h
  · exact .inr ⟨g, cap, hv, hg, ho.lt, ho⟩
theorem IsI.inn {w : World} {g : Nat} {l : List Int} (h : IsI w g 2 l) (cap : Nat) : OwnIn w g (g + 1) (.slice (some ⟨g, 0, none⟩) l.length cap) l :=
  .inr ⟨g, cap, rfl, Nat.le_refl _, Nat.lt_succ_self _, h.own⟩
theorem OwnIn.below {w w' : World} {lo hi B : Nat} {v : Value} {l : List Int} (h : OwnIn w lo hi v l) (b : Below B w w') (hB : hi ≤ B) : OwnIn w' lo hi v l := by
  rcases h with h | ⟨g, cap, hv, hg, hh, ho⟩
  · exact .inl h
  · exact .inr ⟨g, cap, hv, hg, hh, ho.below b (by omega)⟩
theorem OwnIn.aft {w w' : World} {lo hi g : Nat} {v : Value} {l : List Int} (h : OwnIn w lo hi v l) (ha : Aft g w w') (hg : g < lo ∨ hi ≤ g) (hh : hi ≤ w.heap.size) : OwnIn w' lo hi v l := by
  rcases h with h | ⟨g', cap, hv, hg', hh', ho⟩
  · exact .inl h
  · exact .inr ⟨g', cap, hv, hg', hh', ho.of_heap (ha.2.2.2.2 g' (by omega) (by omega))⟩
theorem OwnIn.ints {w : World} {lo hi : Nat} {v : Value} {l : List Int} (h : OwnIn w lo hi v l) : ∃ a cap, v = .slice a l.length cap ∧ Ints w hi a l := by
  rcases h with ⟨rfl, rfl⟩ | ⟨g, cap, rfl, _, hh, ho⟩
  · exact ⟨none, 0, rfl, .inl rfl⟩
  · exact ⟨_, cap, rfl, ho.ints hh⟩

theorem eq_in {w : World} {lo hi lo' hi' : Nat} {u v : Value} {l : List Int} (hu : OwnIn w lo hi u l) (hv : OwnIn w lo' hi' v l) (hn : l.length ≤ 1048576) :
    Calls Try.prog 54 #[u, v] w fun e w' => e = .returned (.bool true) ∧ Below w.heap.size w w' := by
  obtain ⟨a, cap, rfl, ha⟩ := hu.ints
  obtain ⟨b, cap', rfl, hb⟩ := hv.ints
  exact eq_any a b cap cap' l w (max hi hi') (ha.mono (Nat.le_max_left _ _)) (hb.mono (Nat.le_max_right _ _)) hn

/-- the marks stand in a row of so many numbers -/
def IntMarked (w : World) (lo hi : Nat) (v : Value) (n : Nat) : Prop := OwnIn w lo hi v (marks 1 n)
theorem mark_in {w : World} {lo hi : Nat} {v : Value} {l : List Int} (h : OwnIn w lo hi v l) (hn : l.length ≤ 1048576) :
    Calls Try.prog 55 #[v, .int .i64 1] w fun e w' => e = .returned (.int .i64 (1 + l.length)) ∧ OwnIn w' lo hi v (marks 1 l.length) ∧ ∃ g, (g = lo ∨ (lo ≤ g ∧ g < hi)) ∧ Aft g w w' := by
  rcases h with ⟨rfl, rfl⟩ | ⟨g, cap, rfl, hg, hh, ho⟩
  · refine (mark_none none 0 w).mono ?_
    rintro e w' ⟨rfl, rfl⟩
    exact ⟨rfl, .inl ⟨rfl, rfl⟩, lo, .inl rfl, Aft.refl _ _⟩
  · refine (mark_any g 2 cap l w ho hn).mono ?_
    rintro e w' ⟨rfl, hi', ha⟩
    exact ⟨rfl, .inr ⟨g, cap, by rw [marks_length], hg, hh, hi'⟩, g, .inr ⟨hg, hh⟩, ha⟩
theorem held_in {w : World} {lo hi n : Nat} {v : Value} (h : OwnIn w lo hi v (marks 1 n)) (hn : n ≤ 1048576) :
    Calls Try.prog 56 #[v, .int .i64 1] w fun e w' => e = .returned (.int .i64 (1 + n)) ∧ Below w.heap.size w w' := by
  rcases h with ⟨rfl, h0⟩ | ⟨g, cap, rfl, hg, hh, ho⟩
  · have : n = 0 := by rw [← marks_length 1 n, h0]; rfl
    subst this
    refine (held_none none 0 w).mono ?_
    rintro e w' ⟨rfl, rfl⟩
    exact ⟨rfl, Below.refl _ _⟩
  · rw [marks_length]
    exact held_any g 2 cap n w ho hn
end Go.Proofs.Ytmkpakhpjgocjaa.In

/- The walks of the specification's helpers on lengths, of both Whole, and of the law. -/
namespace Go.Proofs.Ytmkpakhpjgocjaa.Bi
open Go.RowKit
open Go.Proofs.Ytmkpakhpjgocjaa.In (Ints)

/-- the two numbers of lengths -/
def sumR (l : List Int) : Int × Int := if right l = true then ((csum l : Nat), (above l : Nat)) else (-1, 0)
theorem sumR_yes {l : List Int} (h : right l = true) : sumR l = (((csum l : Nat) : Int), ((above l : Nat) : Int)) := if_pos h
theorem sumR_no {l : List Int} (h : right l = false) : sumR l = (-1, 0) := if_neg (by rw [h]; decide)
theorem ret_two {a b c d : Int} (h1 : a = c) (h2 : b = d) : Ending.returned (.tuple #[.int .i64 a, .int .i64 b]) = .returned (.tuple #[.int .i64 c, .int .i64 d]) := by rw [h1, h2]
theorem good12 {l : List Int} {k : Nat} (hk : l.length ≤ k) (h : ∀ j (hj : j < l.length), j < k → 0 ≤ l[j] ∧ l[j] ≤ 12) : ∀ x ∈ l, 0 ≤ x ∧ x ≤ 12 := by
  intro x hx
  obtain ⟨j, hj, rfl⟩ := List.getElem_of_mem hx
  exact h j hj (by omega)
theorem good_more {l : List Int} {k : Nat} (hk : k < l.length) (h : ∀ j (hj : j < l.length), j < k → 0 ≤ l[j] ∧ l[j] ≤ 12) (h2 : 0 ≤ l[k] ∧ l[k] ≤ 12) : ∀ j (hj : j < l.length), j < k + 1 → 0 ≤ l[j] ∧ l[j] ≤ 12 := by
  intro j hj hjk
  by_cases e : j = k
  · subst e; exact h2
  · exact h j hj (by omega)

set_option maxHeartbeats 2000000 in
theorem sum_spec (l : List Int) (a : Option Addr) (cap B : Nat) (w : World) (hi : Ints w B a l) (hn : l.length ≤ 400) :
    Calls Try.prog 91 #[.slice a l.length cap] w fun e w' => e = .returned (.tuple #[.int .i64 (sumR l).1, .int .i64 (sumR l).2]) ∧ w' = w := by
  have HS := hideB hi
  clear hi
  obtain ⟨n, hln⟩ : ∃ n, n = l.length := ⟨_, rfl⟩
  have HLN := hideB hln
  rw [← hln] at hn ⊢
  clear hln
  have HP12 := hideB (pow_any 12 w (by decide))
  obtain ⟨r, hr⟩ : ∃ r, r = sumR l := ⟨_, rfl⟩
  rw [← hr]
  have HR := hideB hr
  clear hr
  go_enter Try.func91, Try.ntmps91
  go_wp2_with fail
  go_loopw [6, 4, 5] (fun i v u wr => ∃ k s c : Nat, i = .int .i64 k ∧ v = .int .i64 s ∧ u = .int .i64 c ∧ k ≤ n ∧ s = csum (l.take k) ∧ c = above (l.take k) ∧ s ≤ 4096 * k ∧ c ≤ k ∧ (∀ j (hj : j < l.length), j < k → 0 ≤ l[j] ∧ l[j] ≤ 12) ∧ wr = w) (fun i _ _ _ => n - (intOf i).toNat)
  case atStart => exact ⟨0, 0, 0, rfl, rfl, rfl, Nat.zero_le _, by simp [csum], by simp [above], by omega, by omega, fun j hj h0 => absurd h0 (Nat.not_lt_zero j), rfl⟩
  case round =>
    obtain ⟨k, s, c, rfl, rfl, rfl, hk, hs, hc', hsb, hcb, hall, hw⟩ := hrel
    subst hw
    have HC := hideB hs
    have HD := hideB hc'
    have HA := hideB hall
    clear hs hc' hall
    by_cases hlt : k < n
    · have hkl : k < l.length := by rw [← HLN.out]; exact hlt
      obtain ⟨b, off, rfl, hb, hc⟩ := HS.out.some (by omega)
      have ci := hc k hkl
      have HM := hideB (csum_more hkl)
      have HM' := hideB (above_more hkl)
      have HGM := hideB (good_more hkl HA.out)
      obtain ⟨x, hx⟩ : ∃ x, x = l[k] := ⟨_, rfl⟩
      have HX := hideB hx
      rw [← hx] at ci HM HM' HGM
      clear hc hx
      by_cases h0 : 0 ≤ x ∧ x ≤ 12
      · have HI := hideB (is_yes x 0 12 wr h0.1 h0.2)
        by_cases hpos : 0 < x
        · obtain ⟨m, rfl, hm1, hm2, hp⟩ := part_pos x hpos h0.2
          obtain ⟨d, hd⟩ : ∃ d : Nat, d = 12 - m := ⟨_, rfl⟩
          have hdi : (12 : Int) - m = d := by omega
          have HQ := hideB (pow_any d wr (by omega))
          rw [← hd] at hp
          have hp2 : 2 ^ d ≤ 4096 := by have := part_le (m : Int); rw [hp] at this; exact this
          have HP := hideB hp
          have HM2 : Hid (above (l.take (k + 1)) = c + 1) := by
            unfold Hid
            rw [HM'.out, if_pos hpos, HD.out]
          clear hp hd
          generalize 2 ^ d = pm at hp2 HP HQ
          go_wp2_with fail
          refine HI.out.mono ?_
          rintro e w' ⟨rfl, hw⟩
          subst w'
          go_wp2_with fail
          refine HQ.out.mono ?_
          rintro e w' ⟨rfl, hw⟩
          subst w'
          go_wp2_with fail
          go_roundw
          case rel => exact ⟨k + 1, s + pm, c + 1, by go_num, by go_num, by go_num, by omega, by rw [HM.out, HP.out, HC.out], HM2.out.symm, by omega, by omega, HGM.out h0, trivial⟩
          case measure => simp [intOf]; omega
        · have HP := hideB (part_none x hpos)
          have HM2 : Hid (above (l.take (k + 1)) = c) := by
            unfold Hid
            rw [HM'.out, if_neg hpos, HD.out]
            rfl
          go_wp2_with fail
          refine HI.out.mono ?_
          rintro e w' ⟨rfl, hw⟩
          subst w'
          go_wp2_with fail
          go_roundw
          case rel => exact ⟨k + 1, s, c, by go_num, rfl, rfl, by omega, by rw [HM.out, HP.out, HC.out]; rfl, HM2.out.symm, by omega, by omega, HGM.out h0, trivial⟩
          case measure => simp [intOf]; omega
      · have HI := hideB (is_no x 0 12 wr (by omega))
        have HE : Hid (r = (-1, 0)) := by
          unfold Hid
          rw [HR.out]
          exact sumR_no (right_no (Or.inl (within_bad (m := 12) hkl (by rw [← HX.out]; omega))))
        clear h0
        go_wp2_with fail
        refine HI.out.mono ?_
        rintro e w' ⟨rfl, hw⟩
        subst w'
        go_wp2_with fail
        go_ret2
        exact ⟨by rw [HE.out]; rfl, rfl⟩
    · have HS2 : Hid (s = csum l) := by
        unfold Hid
        rw [HC.out, List.take_of_length_le (by have := HLN.out; omega)]
      have HC2 : Hid (c = above l) := by
        unfold Hid
        rw [HD.out, List.take_of_length_le (by have := HLN.out; omega)]
      have HG := hideB (good12 (by have := HLN.out; omega) HA.out)
      by_cases hlong : 257 < n
      · have HE : Hid (r = (-1, 0)) := by
          unfold Hid
          rw [HR.out]
          exact sumR_no (right_no (Or.inl (within_long (by have := HLN.out; omega))))
        have hl' : (257 : Int) < n := by omega
        go_wp2_with fail
        go_ret2
        exact ⟨by rw [HE.out]; rfl, rfl⟩
      · have hl' : decide ((257 : Int) < n) = false := decide_eq_false (by omega)
        have HW : Hid (within l 12 = true) := within_of (by have := HLN.out; omega) HG.out
        by_cases hbig : 4096 < s
        · have HE : Hid (r = (-1, 0)) := by
            unfold Hid
            rw [HR.out]
            exact sumR_no (right_no (Or.inr (by rw [← HS2.out]; omega)))
          go_wp2_with fail
          refine HP12.out.mono ?_
          rintro e w' ⟨rfl, hw⟩
          subst w'
          go_wp2_with fail
          go_ret2
          exact ⟨by rw [HE.out]; rfl, rfl⟩
        · have HE : Hid (r = ((s : Int), (c : Int))) := by
            unfold Hid
            rw [HR.out, HS2.out, HC2.out]
            exact sumR_yes (right_of HW.out (by rw [← HS2.out]; omega))
          have hb' : decide ((4096 : Int) < s) = false := decide_eq_false (by omega)
          go_wp2_with fail
          refine HP12.out.mono ?_
          rintro e w' ⟨rfl, hw⟩
          subst w'
          go_wp2_with fail
          go_ret2
          exact ⟨by rw [HE.out]; rfl, rfl⟩

theorem whole_yes1 {l : List Int} (h : right l = true) (h1 : csum l = 4096) : whole l = true := by unfold whole; rw [h, decide_eq_true h1]; rfl
theorem whole_yes2 {l : List Int} (h : right l = true) (h1 : above l = 1) (h2 : csum l = 2048) : whole l = true := by unfold whole; rw [h, decide_eq_true h1, decide_eq_true h2]; simp
theorem whole_no1 {l : List Int} (h1 : ¬ csum l = 4096) (h2 : ¬ above l = 1) : whole l = false := by unfold whole; rw [decide_eq_false h1, decide_eq_false h2]; simp
theorem whole_no2 {l : List Int} (h1 : ¬ csum l = 4096) (h2 : ¬ csum l = 2048) : whole l = false := by unfold whole; rw [decide_eq_false h1, decide_eq_false h2]; simp

set_option maxHeartbeats 2000000 in
theorem l04Whole_any (l : List Int) (a : Option Addr) (cap B : Nat) (w : World) (hi : Ints w B a l) (hn : l.length ≤ 400) :
    Calls Try.prog 81 #[.slice a l.length cap] w fun e w' => e = .returned (.bool (whole l)) ∧ w' = w := by
  have HS := hideB (sum_spec l a cap B w hi hn)
  have HP12 := hideB (pow_any 12 w (by decide))
  have HP11 := hideB (pow_any 11 w (by decide))
  clear hi
  cases hr : right l with
  | false =>
    have HE := hideB (whole_no hr)
    rw [sumR_no hr] at HS
    generalize l.length = n at HS hn ⊢
    generalize whole l = wl at HE ⊢
    go_enter Try.func81, Try.ntmps81
    go_wp2_with fail
    refine HS.out.mono ?_
    rintro e w' ⟨rfl, hw⟩
    subst w'
    go_wp2_with fail
    refine HP12.out.mono ?_
    rintro e w' ⟨rfl, hw⟩
    subst w'
    go_wp2_with fail
    go_ret
    exact ⟨ret_boolB HE.out.symm, rfl⟩
  | true =>
    rw [sumR_yes hr] at HS
    by_cases h1 : csum l = 4096
    · have HE := hideB (whole_yes1 hr h1)
      rw [h1] at HS
      generalize l.length = n at HS hn ⊢
      generalize whole l = wl at HE ⊢
      generalize above l = ab at HS
      clear h1
      go_enter Try.func81, Try.ntmps81
      go_wp2_with fail
      refine HS.out.mono ?_
      rintro e w' ⟨rfl, hw⟩
      subst w'
      go_wp2_with fail
      refine HP12.out.mono ?_
      rintro e w' ⟨rfl, hw⟩
      subst w'
      go_wp2_with fail
      go_ret
      exact ⟨ret_boolB HE.out.symm, rfl⟩
    · by_cases h2 : above l = 1
      · by_cases h3 : csum l = 2048
        · have HE := hideB (whole_yes2 hr h2 h3)
          rw [h3, h2] at HS
          generalize l.length = n at HS hn ⊢
          generalize whole l = wl at HE ⊢
          clear h1 h2 h3
          go_enter Try.func81, Try.ntmps81
          go_wp2_with fail
          refine HS.out.mono ?_
          rintro e w' ⟨rfl, hw⟩
          subst w'
          go_wp2_with fail
          refine HP12.out.mono ?_
          rintro e w' ⟨rfl, hw⟩
          subst w'
          go_wp2_with fail
          refine HP11.out.mono ?_
          rintro e w' ⟨rfl, hw⟩
          subst w'
          go_wp2_with fail
          go_ret
          exact ⟨ret_boolB HE.out.symm, rfl⟩
        · have HE := hideB (whole_no2 h1 h3)
          rw [h2] at HS
          have g1 : (((csum l : Nat) : Int) == 4096) = false := beq_eq_false_iff_ne.2 (by omega)
          have g3 : (((csum l : Nat) : Int) == 2048) = false := beq_eq_false_iff_ne.2 (by omega)
          generalize l.length = n at HS hn ⊢
          generalize whole l = wl at HE ⊢
          generalize csum l = cs at HS g1 g3
          clear h1 h2 h3
          go_enter Try.func81, Try.ntmps81
          go_wp2_with fail
          refine HS.out.mono ?_
          rintro e w' ⟨rfl, hw⟩
          subst w'
          go_wp2_with fail
          refine HP12.out.mono ?_
          rintro e w' ⟨rfl, hw⟩
          subst w'
          go_wp2_with fail
          refine HP11.out.mono ?_
          rintro e w' ⟨rfl, hw⟩
          subst w'
          go_wp2_with fail
          go_ret
          exact ⟨ret_boolB HE.out.symm, rfl⟩
      · have HE := hideB (whole_no1 h1 h2)
        have g1 : (((csum l : Nat) : Int) == 4096) = false := beq_eq_false_iff_ne.2 (by omega)
        have g2 : (((above l : Nat) : Int) == 1) = false := beq_eq_false_iff_ne.2 (by omega)
        generalize l.length = n at HS hn ⊢
        generalize whole l = wl at HE ⊢
        generalize csum l = cs at HS g1
        generalize above l = ab at HS g2
        clear h1 h2
        go_enter Try.func81, Try.ntmps81
        go_wp2_with fail
        refine HS.out.mono ?_
        rintro e w' ⟨rfl, hw⟩
        subst w'
        go_wp2_with fail
        refine HP12.out.mono ?_
        rintro e w' ⟨rfl, hw⟩
        subst w'
        go_wp2_with fail
        go_ret
        exact ⟨ret_boolB HE.out.symm, rfl⟩

set_option maxHeartbeats 1000000 in
theorem whole_spec (l : List Int) (a : Option Addr) (cap B : Nat) (w : World) (hi : Ints w B a l) (hn : l.length ≤ 1048576) :
    Calls Try.prog 23 #[.slice a l.length cap] w fun e w' => e = .returned (.bool (whole l)) ∧ w' = w := by
  by_cases h : l.length ≤ 400
  · have HW := hideB (l04Whole_any l a cap B w hi h)
    clear hi
    generalize l.length = n at HW hn h ⊢
    generalize whole l = wl at HW ⊢
    go_enter Try.func23, Try.ntmps23
    go_wp2_with fail
    refine HW.out.mono ?_
    rintro e w' ⟨rfl, hw⟩
    subst w'
    go_wp2_with fail
    go_ret
    exact ⟨rfl, rfl⟩
  · have HE := hideB (whole_no (right_no (l := l) (Or.inl (within_long (by omega)))))
    clear hi
    have hd : decide ((l.length : Int) ≤ 400) = false := decide_eq_false (by omega)
    generalize l.length = n at hd hn h ⊢
    generalize whole l = wl at HE ⊢
    go_enter Try.func23, Try.ntmps23
    go_wp2_with fail
    go_ret
    exact ⟨ret_boolB HE.out.symm, rfl⟩

set_option maxHeartbeats 2000000 in
theorem whole_impl (l : List Int) (a : Option Addr) (cap B : Nat) (w : World) (hi : Ints w B a l) (hn : l.length ≤ 1048576) :
    Calls Try.prog 22 #[.slice a l.length cap] w fun e w' => e = .returned (.bool (whole l)) ∧ w' = w := by
  have HR := hideB (right_impl l a cap B w hi hn)
  have HC := hideB (count_impl l a cap B w hi hn)
  have HK := hideB (contains_impl l 1 a cap B w hi hn)
  cases hr : right l with
  | false =>
    have HE := hideB (whole_no hr)
    rw [hr] at HR
    clear hi
    generalize l.length = n at HR hn ⊢
    generalize whole l = wl at HE ⊢
    go_enter Try.func22, Try.ntmps22
    go_wp2_with fail
    refine HR.out.mono ?_
    rintro e w' ⟨rfl, hw⟩
    subst w'
    go_wp2_with fail
    go_ret
    exact ⟨ret_boolB HE.out.symm, rfl⟩
  | true =>
    have HS := hideB (sum_impl l a cap B w hi (right_yes hr).1)
    rw [hr] at HR
    clear hi
    by_cases h2 : above l = 1
    · rw [alone l h2] at HK
      rw [h2] at HC
      by_cases h3 : csum l = 2048
      · have HE := hideB (whole_yes2 hr h2 h3)
        rw [decide_eq_true h3] at HK
        generalize l.length = n at HR HC HK HS hn ⊢
        generalize whole l = wl at HE ⊢
        clear h2 h3 hr HS
        go_enter Try.func22, Try.ntmps22
        go_wp2_with fail
        refine HR.out.mono ?_
        rintro e w' ⟨rfl, hw⟩
        subst w'
        go_wp2_with fail
        refine HC.out.mono ?_
        rintro e w' ⟨rfl, hw⟩
        subst w'
        go_wp2_with fail
        refine HK.out.mono ?_
        rintro e w' ⟨rfl, hw⟩
        subst w'
        go_wp2_with fail
        go_ret
        exact ⟨ret_boolB HE.out.symm, rfl⟩
      · have HE : Hid (whole l = decide (csum l = 4096)) := by
          unfold Hid
          by_cases h4 : csum l = 4096
          · rw [whole_yes1 hr h4, decide_eq_true h4]
          · rw [whole_no2 h4 h3, decide_eq_false h4]
        rw [decide_eq_false h3] at HK
        have HD : Hid (((((csum l : Nat) : Int)) == 4096) = decide (csum l = 4096)) := by
          unfold Hid
          rw [Bool.eq_iff_iff]
          simp
          omega
        generalize decide (csum l = 4096) = dc at HE HD
        generalize l.length = n at HR HC HK HS hn ⊢
        generalize whole l = wl at HE ⊢
        generalize csum l = cs at HS HD
        clear h2 h3 hr
        go_enter Try.func22, Try.ntmps22
        go_wp2_with fail
        refine HR.out.mono ?_
        rintro e w' ⟨rfl, hw⟩
        subst w'
        go_wp2_with fail
        refine HC.out.mono ?_
        rintro e w' ⟨rfl, hw⟩
        subst w'
        go_wp2_with fail
        refine HK.out.mono ?_
        rintro e w' ⟨rfl, hw⟩
        subst w'
        go_wp2_with fail
        refine HS.out.mono ?_
        rintro e w' ⟨rfl, hw⟩
        subst w'
        go_wp2_with fail
        go_ret
        exact ⟨ret_boolB (HD.out.trans HE.out.symm), rfl⟩
    · have HE : Hid (whole l = decide (csum l = 4096)) := by
        unfold Hid
        by_cases h4 : csum l = 4096
        · rw [whole_yes1 hr h4, decide_eq_true h4]
        · rw [whole_no1 h4 h2, decide_eq_false h4]
      have g2 : (((above l : Nat) : Int) == 1) = false := beq_eq_false_iff_ne.2 (by omega)
      have HD : Hid (((((csum l : Nat) : Int)) == 4096) = decide (csum l = 4096)) := by
        unfold Hid
        rw [Bool.eq_iff_iff]
        simp
        omega
      generalize decide (csum l = 4096) = dc at HE HD
      generalize l.length = n at HR HC HK HS hn ⊢
      generalize whole l = wl at HE ⊢
      generalize csum l = cs at HS HD
      generalize above l = ab at HC g2
      clear h2 hr HK
      go_enter Try.func22, Try.ntmps22
      go_wp2_with fail
      refine HR.out.mono ?_
      rintro e w' ⟨rfl, hw⟩
      subst w'
      go_wp2_with fail
      refine HC.out.mono ?_
      rintro e w' ⟨rfl, hw⟩
      subst w'
      go_wp2_with fail
      refine HS.out.mono ?_
      rintro e w' ⟨rfl, hw⟩
      subst w'
      go_wp2_with fail
      go_ret
      exact ⟨ret_boolB (HD.out.trans HE.out.symm), rfl⟩
end Go.Proofs.Ytmkpakhpjgocjaa.Bi
