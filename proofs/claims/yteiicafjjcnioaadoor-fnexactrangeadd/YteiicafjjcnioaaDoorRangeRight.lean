/- Whether a range is right: impl.rangeRight and spec.l03Range. -/
import Derived.Test.YteiicafjjcnioaaDoorOnesWalks
import Derived.Test.YteiicafjjcnioaaDoorDigs
import Derived.BigQuiet
import Derived.Deep.QuietTactic
import Derived.Deep.RegionWith
namespace Go.Proofs.YteiicafjjcnioaaDoor.Tr
open Go.RowKit
open Go.Proofs.YteiicafjjcnioaaDoor.St

def rngB (n : Int) (p : List ByteArray) : Bool := decide (0 ≤ n) && decide (n ≤ 1000000) && decide (p.length = ones n.toNat) && wide p
theorem rngB_low (n : Int) (p : List ByteArray) (h : n < 0) : rngB n p = false := by simp [rngB, show ¬ 0 ≤ n by omega]
theorem rngB_high (n : Int) (p : List ByteArray) (h : 1000000 < n) : rngB n p = false := by simp [rngB, show ¬ n ≤ 1000000 by omega]
theorem rngB_in (n : Nat) (p : List ByteArray) (h : n ≤ 1000000) : rngB n p = (decide (p.length = ones n) && wide p) := by
  unfold rngB
  rw [decide_eq_true (show (0 : Int) ≤ n by omega), decide_eq_true (show (n : Int) ≤ 1000000 by omega)]
  simp

set_option maxRecDepth 100000 in
set_option maxHeartbeats 2000000 in
theorem rng_impl (n : Int) (p : List ByteArray) (a : Option Addr) (cap B : Nat) (w : World) (hp : p.length ≤ 1048576) (hs : Strs w B a p) (hB : B ≤ w.heap.size) :
    Calls Tryd.prog 80 #[.agg #[.int .i64 n, .slice a p.length cap]] w fun e w' => e = .returned (.bool (rngB n p)) ∧ Below w.heap.size w w' := by
  have HD := hideT (fun (W : World) (hW : Below w.heap.size w W) (m : Nat) => digs_impl a cap p m W B (hs.after hW hB) hp)
  clear hs
  by_cases h0 : n < 0
  · have HF := hideT (rngB_low n p h0)
    clear HD
    generalize p.length = m at hp ⊢
    go_enter Tryd.func80, Tryd.ntmps80
    go_wp2_with fail
    go_ret
    exact ⟨ret_bool HF.out.symm, (Below.refl _ _).alloc (Nat.le_refl _) _⟩
  · by_cases h1 : 1000000 < n
    · have HF := hideT (rngB_high n p h1)
      clear HD
      generalize p.length = m at hp ⊢
      go_enter Tryd.func80, Tryd.ntmps80
      go_wp2_with fail
      go_ret
      exact ⟨ret_bool HF.out.symm, (Below.refl _ _).alloc (Nat.le_refl _) _⟩
    · obtain ⟨k, rfl⟩ : ∃ k : Nat, n = k := ⟨n.toNat, by omega⟩
      have HF := hideT (rngB_in k p (by omega))
      have e1 : IntKind.u64.wrap (k : Int) = (k : Int) := by rw [IntKind.wrap_u64]; omega
      have hk : k < 1048576 := by omega
      have b0 : decide ((k : Int) < 0) = false := by simp
      have b9 : decide ((1000000 : Int) < (k : Int)) = false := by simp; omega
      by_cases hl : p.length = ones k
      · have HE : Hid (rngB k p = wide p) := by
          unfold Hid
          rw [HF.out, decide_eq_true hl, Bool.true_and]
        have HD2 : Hid (∀ W : World, Below w.heap.size w W → Calls Tryd.prog 82 #[.slice a p.length cap, .int .i64 (ones k)] W fun e w' => e = .returned (.bool (wide p)) ∧ w' = W) := fun W hW => by
          have := HD.out W hW (ones k)
          rw [decide_eq_true (Nat.le_of_eq hl), Bool.true_and] at this
          exact this
        have HL := hideT hl
        clear HD h0 h1
        rw [hl] at hp HD2 ⊢
        clear hl
        go_enter Tryd.func80, Tryd.ntmps80
        go_wp2_with fail
        refine (ones_any k _ (by omega)).mono ?_
        rintro e w1 ⟨rfl, hw⟩
        subst w1
        go_wp2_with fail
        refine (HD2.out _ ((Below.refl _ _).alloc (Nat.le_refl _) _)).mono ?_
        rintro e w1 ⟨rfl, hw⟩
        subst w1
        go_wp2_with fail
        go_ret
        exact ⟨ret_bool HE.out.symm, (Below.refl _ _).alloc (Nat.le_refl _) _⟩
      · have HE : Hid (rngB k p = false) := by
          unfold Hid
          rw [HF.out, decide_eq_false hl]
          rfl
        have b1 : ((p.length : Int) == ((ones k : Nat) : Int)) = false := by simp; omega
        clear HD h0 h1
        generalize p.length = m at hp hl b1 ⊢
        go_enter Tryd.func80, Tryd.ntmps80
        go_wp2_with fail
        refine (ones_any k _ (by omega)).mono ?_
        rintro e w1 ⟨rfl, hw⟩
        subst w1
        go_wp2_with fail
        go_ret
        exact ⟨ret_bool HE.out.symm, (Below.refl _ _).alloc (Nat.le_refl _) _⟩

theorem is_any (n lo hi : Int) (w : World) : Calls Tryd.prog 109 #[.int .i64 n, .int .i64 lo, .int .i64 hi] w fun e w' => e = .returned (.bool (decide (lo ≤ n) && decide (n ≤ hi))) ∧ w' = w := by
  by_cases h : lo ≤ n
  · have HE : Hid ((decide (lo ≤ n) && decide (n ≤ hi)) = decide (n ≤ hi)) := by
      unfold Hid
      rw [decide_eq_true h, Bool.true_and]
    go_enter Tryd.func109, Tryd.ntmps109
    go_wp2_with fail
    go_ret
    exact ⟨ret_bool HE.out.symm, rfl⟩
  · have HE : Hid ((decide (lo ≤ n) && decide (n ≤ hi)) = false) := by
      unfold Hid
      rw [decide_eq_false h]
      rfl
    go_enter Tryd.func109, Tryd.ntmps109
    go_wp2_with fail
    go_ret
    exact ⟨ret_bool HE.out.symm, rfl⟩

set_option maxRecDepth 100000 in
set_option maxHeartbeats 4000000 in
theorem rng_spec (n : Int) (p : List ByteArray) (a : Option Addr) (cap B : Nat) (w : World) (hp : p.length ≤ 1048576) (hs : Strs w B a p) (hB : B ≤ w.heap.size) :
    Calls Tryd.prog 86 #[.agg #[.int .i64 n, .slice a p.length cap]] w fun e w' => e = .returned (.bool (rngB n p)) ∧ Below w.heap.size w w' := by
  have HD := hideT (fun (W : World) (hW : Below w.heap.size w W) => (wide_spec a cap p W B (hs.after hW hB) hp).mono (R' := fun e w' => e = .returned (.bool (wide p)) ∧ ∃ n, w' = W.drewN n) fun e w' h => ⟨h.1, 0, h.2⟩)
  clear hs
  by_cases h0 : 0 ≤ n ∧ n ≤ 1000000
  · obtain ⟨k, rfl⟩ : ∃ k : Nat, n = k := ⟨n.toNat, by omega⟩
    have HF := hideT (rngB_in k p (by omega))
    have HIs : Hid (∀ W, Calls Tryd.prog 109 #[.int .i64 k, .int .i64 0, .int .i64 1000000] W fun e w' => e = .returned (.bool true) ∧ ∃ n, w' = W.drewN n) := fun W => by
      have := is_any k 0 1000000 W
      rw [decide_eq_true h0.1, decide_eq_true h0.2] at this
      exact this.mono fun e w' h => ⟨h.1, 0, h.2⟩
    have hk : k < 1048576 := by omega
    have HOn := hideT (fun W => (ones_spec k W hk).mono (R' := fun e w' => e = .returned (.int .i64 (ones k)) ∧ ∃ n, w' = W.drewN n) fun e w' h => ⟨h.1, 0, h.2⟩)
    clear h0
    by_cases hl : p.length = ones k
    · have HE : Hid (rngB k p = wide p) := by
        unfold Hid
        rw [HF.out, decide_eq_true hl, Bool.true_and]
      rw [hl] at hp HD ⊢
      clear hl
      go_enter Tryd.func86, Tryd.ntmps86
      go_wp2_with fail
      go_quiet (first | (go_at_call 109; refine Calls.quiet_of (HIs.out _)) | (go_at_call 108; refine Calls.quiet_of (HOn.out _)) | (go_at_call 89; refine Calls.quiet_of (HD.out _ ?_); exact ⟨rfl, rfl, rfl, by simp, fun j hj => Below.heap_alloc w _ j hj⟩))
      all_goals (try go_wp2_with fail)
      all_goals go_ret
      all_goals exact ⟨ret_bool HE.out.symm, ⟨rfl, rfl, rfl, by simp, fun j hj => Below.heap_alloc w _ j hj⟩⟩
    · have HE : Hid (rngB k p = false) := by
        unfold Hid
        rw [HF.out, decide_eq_false hl]
        rfl
      have b1 : ((p.length : Int) == ((ones k : Nat) : Int)) = false := by simp; omega
      have b2 : decide ((p.length : Int) = ((ones k : Nat) : Int)) = false := by simp; omega
      have b3 : decide (p.length = ones k) = false := by simp; omega
      have b4 : (p.length == ones k) = false := by simp; omega
      clear HD hl
      generalize p.length = m at hp b1 b2 b3 b4 ⊢
      generalize ones k = o at b1 b2 b3 b4 HOn HF
      go_enter Tryd.func86, Tryd.ntmps86
      go_wp2_with fail
      go_quiet (first | (go_at_call 109; refine Calls.quiet_of (HIs.out _)) | (go_at_call 108; refine Calls.quiet_of (HOn.out _)))
      all_goals (try go_wp2_with fail)
      all_goals go_ret
      all_goals exact ⟨ret_bool HE.out.symm, ⟨rfl, rfl, rfl, by simp, fun j hj => Below.heap_alloc w _ j hj⟩⟩
  · have HE : Hid (rngB n p = false) := by
      unfold Hid rngB
      by_cases h1 : 0 ≤ n
      · rw [decide_eq_false (show ¬ n ≤ 1000000 by omega)]
        simp
      · rw [decide_eq_false h1]
        simp
    have HIs : Hid (∀ W, Calls Tryd.prog 109 #[.int .i64 n, .int .i64 0, .int .i64 1000000] W fun e w' => e = .returned (.bool false) ∧ ∃ n, w' = W.drewN n) := fun W => by
      have := is_any n 0 1000000 W
      rw [show (decide (0 ≤ n) && decide (n ≤ 1000000)) = false by
        by_cases h1 : 0 ≤ n
        · rw [decide_eq_false (show ¬ n ≤ 1000000 by omega)]
          simp
        · rw [decide_eq_false h1]
          simp] at this
      exact this.mono fun e w' h => ⟨h.1, 0, h.2⟩
    clear HD h0
    generalize p.length = m at hp ⊢
    go_enter Tryd.func86, Tryd.ntmps86
    go_wp2_with fail
    go_quiet (first | (go_at_call 109; refine Calls.quiet_of (HIs.out _)))
    all_goals (try go_wp2_with fail)
    all_goals go_ret
    all_goals exact ⟨ret_bool HE.out.symm, ⟨rfl, rfl, rfl, by simp, fun j hj => Below.heap_alloc w _ j hj⟩⟩
end Go.Proofs.YteiicafjjcnioaaDoor.Tr
