/- Lists of digests: whether each has 32 bytes, and the last one taken off. -/
import Derived.Test.YteiicafjjcnioaaDoorTreeTop
import Derived.Test.YteiicafjjcnioaaDoorInclPlain
namespace Go.Proofs.YteiicafjjcnioaaDoor.Tr
open Go.RowKit
open Go.Proofs.YteiicafjjcnioaaDoor.St
open Go.Proofs.YteiicafjjcnioaaDoor.Sh (nodeV)

def wide (l : List ByteArray) : Bool := l.all (fun s => decide (s.size = 32))
theorem wide_yes (l : List ByteArray) : wide l = true ↔ ∀ j (h : j < l.length), l[j].size = 32 := by
  unfold wide
  simp only [List.all_eq_true, decide_eq_true_eq]
  constructor
  · intro h j hj
    exact h _ (List.getElem_mem hj)
  · intro h s hs
    obtain ⟨j, hj, rfl⟩ := List.getElem_of_mem hs
    exact h j hj
theorem wide_bad (l : List ByteArray) (j : Nat) (hj : j < l.length) (h : ¬ l[j].size = 32) : wide l = false := by
  cases e : wide l with
  | false => rfl
  | true => exact absurd ((wide_yes l).1 e j hj) h

set_option maxRecDepth 100000 in
set_option maxHeartbeats 1000000 in
theorem digs_impl (a : Option Addr) (cap : Nat) (l : List ByteArray) (most : Nat) (w : World) (B : Nat) (h : Strs w B a l) (hn : l.length ≤ 1048576) :
    Calls Tryd.prog 82 #[.slice a l.length cap, .int .i64 most] w fun e w' => e = .returned (.bool (decide (l.length ≤ most) && wide l)) ∧ w' = w := by
  have HS := hideT h
  clear h
  obtain ⟨n, hln⟩ : ∃ n, n = l.length := ⟨_, rfl⟩
  have HLN := hideT hln
  rw [← hln] at hn ⊢
  clear hln
  by_cases hbig : most < n
  · have HR : Hid ((decide (n ≤ most) && wide l) = false) := by
      unfold Hid
      rw [decide_eq_false (by omega)]
      rfl
    go_enter Tryd.func82, Tryd.ntmps82
    go_wp2_with fail
    go_ret
    exact ⟨ret_bool HR.out.symm, rfl⟩
  · have HR : Hid ((decide (n ≤ most) && wide l) = wide l) := by
      unfold Hid
      rw [decide_eq_true (by omega)]
      rfl
    go_enter Tryd.func82, Tryd.ntmps82
    go_wp2_with fail
    go_loopw [13] (fun i wr => ∃ k : Nat, i = .int .i64 k ∧ k ≤ n ∧ (∀ j (hj : j < l.length), j < k → l[j].size = 32) ∧ wr = w) (fun i _ => n - (intOf i).toNat)
    case atStart => exact ⟨0, rfl, by omega, fun j hj h0 => by omega, rfl⟩
    case round =>
      obtain ⟨k, rfl, hk, hall, hw⟩ := hrel
      subst hw
      have HA := hideT hall
      clear hall
      by_cases hlt : k < n
      · have hkl : k < l.length := by rw [← HLN.out]; exact hlt
        obtain ⟨b, off, rfl, hb, hc⟩ := HS.out.some (by omega)
        have ci := hc k hkl
        have HBad := hideT (wide_bad l k hkl)
        obtain ⟨s, hs⟩ : ∃ s, s = l[k] := ⟨_, rfl⟩
        have HSE := hideT hs
        rw [← hs] at ci
        clear hc hs
        by_cases h32 : s.size = 32
        · go_wp2_with fail
          go_roundw
          case rel =>
            refine ⟨k + 1, by go_num, by omega, fun j hj h0 => ?_, trivial⟩
            by_cases e : j = k
            · subst e
              rw [← HSE.out]
              exact h32
            · exact HA.out j hj (by omega)
          case measure => simp [intOf]; omega
        · go_wp2_with fail
          go_ret
          exact ⟨ret_bool (by rw [HR.out, HBad.out (by rw [← HSE.out]; exact h32)]), rfl⟩
      · have HY : Hid (wide l = true) := by
          unfold Hid
          exact (wide_yes l).2 (fun j hj => HA.out j hj (by have := HLN.out; omega))
        go_wp2_with fail
        go_ret
        exact ⟨ret_bool (by rw [HR.out, HY.out]), rfl⟩

set_option maxRecDepth 100000 in
set_option maxHeartbeats 1000000 in
theorem wide_spec (a : Option Addr) (cap : Nat) (l : List ByteArray) (w : World) (B : Nat) (h : Strs w B a l) (hn : l.length ≤ 1048576) :
    Calls Tryd.prog 89 #[.slice a l.length cap] w fun e w' => e = .returned (.bool (wide l)) ∧ w' = w := by
  have HS := hideT h
  clear h
  obtain ⟨n, hln⟩ : ∃ n, n = l.length := ⟨_, rfl⟩
  have HLN := hideT hln
  rw [← hln] at hn ⊢
  clear hln
  go_enter Tryd.func89, Tryd.ntmps89
  go_wp2_with fail
  go_loopw [3] (fun i wr => ∃ k : Nat, i = .int .i64 k ∧ k ≤ n ∧ (∀ j (hj : j < l.length), j < k → l[j].size = 32) ∧ wr = w) (fun i _ => n - (intOf i).toNat)
  case atStart => exact ⟨0, rfl, by omega, fun j hj h0 => by omega, rfl⟩
  case round =>
    obtain ⟨k, rfl, hk, hall, hw⟩ := hrel
    subst hw
    have HA := hideT hall
    clear hall
    by_cases hlt : k < n
    · have hkl : k < l.length := by rw [← HLN.out]; exact hlt
      obtain ⟨b, off, rfl, hb, hc⟩ := HS.out.some (by omega)
      have ci := hc k hkl
      have HBad := hideT (wide_bad l k hkl)
      obtain ⟨s, hs⟩ : ∃ s, s = l[k] := ⟨_, rfl⟩
      have HSE := hideT hs
      rw [← hs] at ci
      clear hc hs
      by_cases h32 : s.size = 32
      · go_wp2_with fail
        go_roundw
        case rel =>
          refine ⟨k + 1, by go_num, by omega, fun j hj h0 => ?_, trivial⟩
          by_cases e : j = k
          · subst e
            rw [← HSE.out]
            exact h32
          · exact HA.out j hj (by omega)
        case measure => simp [intOf]; omega
      · go_wp2_with fail
        go_ret
        exact ⟨ret_bool (by rw [HBad.out (by rw [← HSE.out]; exact h32)]), rfl⟩
    · have HY : Hid (wide l = true) := by
        unfold Hid
        exact (wide_yes l).2 (fun j hj => HA.out j hj (by have := HLN.out; omega))
      go_wp2_with fail
      go_ret
      exact ⟨ret_bool (by rw [HY.out]), rfl⟩

set_option maxRecDepth 100000 in
set_option maxHeartbeats 1000000 in
theorem cutLast_any (b off m cap : Nat) (s : ByteArray) (w : World) (hm : 1 ≤ m) (hm2 : m ≤ 1048576) (hc : m ≤ cap) (ci : w.cell? ⟨b, off + (m - 1), none⟩ = some (.string s)) :
    Calls Tryd.prog 81 #[.slice (some ⟨b, off, none⟩) m cap] w fun e w' => e = .returned (.tuple #[.slice (some ⟨b, off, none⟩) (m - 1) (m - 1), .string s]) ∧ Below w.heap.size w w' := by
  obtain ⟨k, rfl⟩ : ∃ k, m = k + 1 := ⟨m - 1, by omega⟩
  rw [show k + 1 - 1 = k by omega] at ci ⊢
  have g0 : ((k + 1 : Nat) : Int) - 1 = k := by omega
  have g1 : (k : Int) ≤ cap := by omega
  have g2 : (k : Int) < ((k + 1 : Nat) : Int) := by omega
  have g3 : ¬ cap = k := by omega
  go_enter Tryd.func81, Tryd.ntmps81
  go_wp2_with fail
  go_region
  all_goals (try go_wp2_with fail)
  all_goals go_ret2
  all_goals exact ⟨rfl, (Below.refl _ _).drew⟩

/-- one of so many entries climbs along a path to what -/
def incl (n i : Nat) (p : List ByteArray) (h : ByteArray) : Option ByteArray := climbS i (n - 1) p h
theorem incl_one (p : List ByteArray) (h : ByteArray) : incl 1 0 p h = if p = [] then some h else none := by
  unfold incl
  cases p with
  | nil => rw [climbS_nil, if_pos rfl, if_pos rfl]
  | cons x xs => rw [climbS_zero _ _ _ (by simp), if_neg (by simp)]
theorem incl_none (n i : Nat) (h : ByteArray) (hn : 2 ≤ n) : incl n i [] h = none := by
  unfold incl
  rw [climbS_nil, if_neg (by omega)]
theorem incl_left (n i : Nat) (q : List ByteArray) (s h : ByteArray) (hn : 2 ≤ n) (hi : i < half n) : incl n i (q ++ [s]) h = (incl (half n) i q h).map (fun x => nodeV x s) := by
  have k3 := half_two n hn
  have k2 := half_lt n hn
  have hk : half n = 2 ^ Nat.log2 (n - 1) := rfl
  have e4 : 2 ^ (Nat.log2 (n - 1) + 1) = 2 * half n := by rw [Nat.pow_succ, hk]; omega
  exact climb_left q (Nat.log2 (n - 1)) i (n - 1) s h (by rw [← hk]; exact hi) (by rw [← hk]; omega) (by rw [e4]; omega)
theorem incl_right (n i : Nat) (q : List ByteArray) (s h : ByteArray) (hn : 2 ≤ n) (hi : ¬ i < half n) (hin : i < n) : incl n i (q ++ [s]) h = (incl (n - half n) (i - half n) q h).map (fun x => nodeV s x) := by
  have k3 := half_two n hn
  have k2 := half_lt n hn
  have hk : half n = 2 ^ Nat.log2 (n - 1) := rfl
  have e4 : 2 ^ (Nat.log2 (n - 1) + 1) = 2 * half n := by rw [Nat.pow_succ, hk]; omega
  have := climb_right q (Nat.log2 (n - 1)) i (n - 1) s h (by rw [← hk]; omega) (by omega) (by rw [e4]; omega)
  unfold incl
  rw [this, ← hk, show n - 1 - half n = n - half n - 1 by omega]
end Go.Proofs.YteiicafjjcnioaaDoor.Tr
