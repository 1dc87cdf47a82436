/- The walk of l04Counts. -/
import Derived.Test.YtmkpakhpjgocjaaHuImpl
namespace Go.Proofs.Ytmkpakhpjgocjaa.Hf
open Go.RowKit
open Go.Proofs.Ytmkpakhpjgocjaa.In (IsI irow Ints OwnI)
open Go.Proofs.Ytmkpakhpjgocjaa.Bi (within within_yes within_of within_long within_bad)

set_option maxHeartbeats 400000 in
theorem is_any (x : Int) (w : World) : Calls Try.prog 83 #[.int .i64 x, .int .i64 0, .int .i64 10000] w fun e w' => e = .returned (.bool (decide (0 ≤ x ∧ x ≤ 10000))) ∧ w' = w := by
  by_cases h0 : 0 ≤ x
  · by_cases h1 : x ≤ 10000
    · have e : decide (0 ≤ x ∧ x ≤ 10000) = true := decide_eq_true ⟨h0, h1⟩
      rw [e]
      go_enter Try.func83, Try.ntmps83
      go_wp2_with fail
      go_ret
      exact ⟨rfl, rfl⟩
    · have e : decide (0 ≤ x ∧ x ≤ 10000) = false := decide_eq_false fun h => h1 h.2
      rw [e]
      have h1' : decide (x ≤ 10000) = false := decide_eq_false h1
      go_enter Try.func83, Try.ntmps83
      go_wp2_with fail
      go_ret
      exact ⟨rfl, rfl⟩
  · have e : decide (0 ≤ x ∧ x ≤ 10000) = false := decide_eq_false fun h => h0 h.1
    rw [e]
    have h0' : decide (0 ≤ x) = false := decide_eq_false h0
    go_enter Try.func83, Try.ntmps83
    go_wp2_with fail
    go_ret
    exact ⟨rfl, rfl⟩

set_option maxRecDepth 100000 in
set_option maxHeartbeats 400000 in
theorem counts_any (a : Option Addr) (cap n : Nat) (l : List Int) (w : World) (h : Ints w w.heap.size a l) (hl : l.length = n) (hn : n ≤ 1048576) :
    Calls Try.prog 85 #[.slice a n cap] w fun e w' => e = .returned (.bool (within l 10000)) ∧ w' = w := by
  have HL := hideH hl
  have HS := hideH h
  clear hl h
  go_enter Try.func85, Try.ntmps85
  go_wp2_with fail
  go_loopw [3] (fun iv wr => ∃ i : Nat, iv = .int .i64 i ∧ i ≤ n ∧ (∀ j (h : j < l.length), j < i → 0 ≤ l[j] ∧ l[j] ≤ 10000) ∧ wr = w) (fun iv _ => n - (intOf iv).toNat)
  case atStart => exact ⟨0, rfl, Nat.zero_le _, fun j _ h => absurd h (Nat.not_lt_zero j), rfl⟩
  case round =>
    obtain ⟨i, rfl, hi, hall, hw⟩ := hrel
    subst wr
    have HA := hideH hall
    clear hall
    by_cases hlt : i < n
    · have hil : i < l.length := by rw [HL.out]; exact hlt
      obtain ⟨b, off, rfl, _, hc⟩ := HS.out.some (by omega)
      have ci := hc i hil
      have HNX : Hid (0 ≤ l[i] ∧ l[i] ≤ 10000 → ∀ j (h : j < l.length), j < i + 1 → 0 ≤ l[j] ∧ l[j] ≤ 10000) := fun hx j hj hji => by
        by_cases e : j = i
        · subst e
          exact hx
        · exact HA.out j hj (by omega)
      have HBD : Hid (¬ (0 ≤ l[i] ∧ l[i] ≤ 10000) → within l 10000 = false) := fun hx => within_bad (j := i) hil (by omega)
      generalize l[i] = x at ci HNX HBD
      clear hc hil
      go_wp2_with fail
      refine (is_any x w).mono ?_
      rintro e w1 ⟨rfl, hw1⟩
      subst w1
      by_cases hx : 0 ≤ x ∧ x ≤ 10000
      · rw [decide_eq_true hx]
        have HN2 := hideH (HNX.out hx)
        clear hx
        go_wp2_with fail
        go_roundw
        case rel => exact ⟨i + 1, by go_num, by omega, HN2.out, by trivial⟩
        case measure => simp [intOf]; omega
      · rw [decide_eq_false hx]
        have HF := hideH (HBD.out hx)
        clear hx
        go_wp2_with fail
        go_ret
        exact ⟨by rw [HF.out]; rfl, rfl⟩
    · obtain rfl : i = n := by omega
      have HR : Hid (decide ((i : Int) ≤ 257) = within l 10000) := by
        unfold Hid
        by_cases h257 : i ≤ 257
        · rw [decide_eq_true (by omega), within_of (by rw [HL.out]; exact h257) fun x hx => ?_]
          obtain ⟨j, hj, rfl⟩ := List.getElem_of_mem hx
          exact HA.out j hj (by rw [← HL.out]; exact hj)
        · rw [decide_eq_false (by omega), within_long (by rw [HL.out]; omega)]
      clear HA
      go_wp2_with fail
      go_ret
      exact ⟨by rw [← HR.out]; simp, rfl⟩
end Go.Proofs.Ytmkpakhpjgocjaa.Hf
