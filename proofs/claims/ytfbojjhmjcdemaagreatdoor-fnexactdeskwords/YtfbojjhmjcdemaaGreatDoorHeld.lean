/- The laws' marks found again; an empty row too. -/
import Derived.Test.YtfbojjhmjcdemaaGreatDoorMark
import Derived.BigRegion
namespace Go.Proofs.YtfbojjhmjcdemaaGreatDoor.St
open Go.RowKit

theorem mark_none (a : Option Addr) (c : Nat) (w : World) :
    Calls Tryz.prog 7 #[.slice a 0 c, .int .i64 1] w fun e w' => e = .returned (.int .i64 1) ∧ w' = w := by
  go_enter Tryz.func7, Tryz.ntmps7
  go_wp2_with fail
  go_loopw [5, 1] (fun i kv wr => i = .int .i64 0 ∧ kv = .int .i64 1 ∧ wr = w) (fun _ _ _ => 0)
  case atStart => exact ⟨rfl, rfl, rfl⟩
  case round =>
    obtain ⟨rfl, rfl, hw⟩ := hrel
    subst hw
    go_wp2_with fail
    go_ret
    exact ⟨rfl, rfl⟩
theorem held_none (a : Option Addr) (c : Nat) (w : World) :
    Calls Tryz.prog 8 #[.slice a 0 c, .int .i64 1] w fun e w' => e = .returned (.int .i64 1) ∧ w' = w := by
  go_enter Tryz.func8, Tryz.ntmps8
  go_wp2_with fail
  go_loopw [5, 1] (fun i kv wr => i = .int .i64 0 ∧ kv = .int .i64 1 ∧ wr = w) (fun _ _ _ => 0)
  case atStart => exact ⟨rfl, rfl, rfl⟩
  case round =>
    obtain ⟨rfl, rfl, hw⟩ := hrel
    subst hw
    go_wp2_with fail
    go_ret
    exact ⟨rfl, rfl⟩

set_option maxRecDepth 100000 in
set_option maxHeartbeats 2000000 in
theorem held_any (g t c n : Nat) (w : World) (h : IsO w g t (marks 1 n)) (hn : n ≤ 1048576) :
    Calls Tryz.prog 8 #[.slice (some ⟨g, 0, none⟩) n c, .int .i64 1] w fun e w' => e = .returned (.int .i64 (1 + n)) ∧ Below w.heap.size w w' := by
  have HS := hideT h
  have hgl := h.lt
  clear h
  go_enter Tryz.func8, Tryz.ntmps8
  go_wp2_with fail
  go_loopw [5, 1] (fun i kv wr => ∃ k : Nat, i = .int .i64 k ∧ kv = .int .i64 (1 + k) ∧ k ≤ n ∧ Below w.heap.size w wr) (fun i _ _ => n - (intOf i).toNat)
  case atStart => exact ⟨0, rfl, rfl, by omega, Below.refl _ _⟩
  case round =>
    obtain ⟨k, rfl, rfl, hk, hb⟩ := hrel
    have GB := hideT hb
    by_cases hlt : k < n
    · have hkl : k < (marks 1 n).length := by rw [marks_length]; exact hlt
      have ce := (HS.out.below hb hgl).cell hkl
      rw [marks_get] at ce
      have HT : Hid (∀ W : World, Calls Tryz.prog 10 #[.int .i64 (1 + (k : Int))] W fun e w' => e = .returned (.string (markT (1 + k))) ∧ Below W.heap.size W w') := fun W => by
        have := markT_any (1 + k) W (by omega) (by omega)
        rw [show ((1 + k : Nat) : Int) = 1 + (k : Int) by omega] at this
        exact this
      have HCB : Hid (∀ W : World, Below w.heap.size w W → W.cell? ⟨g, k, none⟩ = some (.string (markT (1 + k)))) := fun W hW => by
        have := (HS.out.below hW hgl).cell hkl
        rw [marks_get] at this
        exact this
      have hsz := hb.size
      clear hb
      generalize markT (1 + k) = mk at ce HT HCB
      go_wp2_with fail
      go_region_with (go_at_call 10; (with_reducible refine (HT.out _).mono ?_); rintro e w1 ⟨rfl, hb1⟩; have hb2 : Below w.heap.size w w1 := Below.trans GB.out ⟨hb1.os, hb1.tape, hb1.output, hb1.size, fun j hj => hb1.block j (Nat.lt_of_lt_of_le hj hsz)⟩; have ce2 := HCB.out w1 hb2; have HB2 := hideT hb2; clear hb1 hb2)
      all_goals (try go_wp2_with fail)
      all_goals
        go_roundw
        case rel => exact ⟨k + 1, by go_num, by go_num, by omega, HB2.out⟩
        case measure => simp [intOf]; omega
    · have HKN : Hid ((1 : Int) + k = 1 + n) := by
        unfold Hid
        omega
      clear hb
      go_wp2_with fail
      go_ret
      exact ⟨by rw [← HKN.out]; rfl, GB.out⟩
end Go.Proofs.YtfbojjhmjcdemaaGreatDoor.St
