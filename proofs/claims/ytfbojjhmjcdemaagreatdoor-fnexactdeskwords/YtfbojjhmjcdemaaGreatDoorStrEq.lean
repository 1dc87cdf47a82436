/- The laws' own look whether two rows of texts are alike. -/
import Derived.Test.YtfbojjhmjcdemaaGreatDoorStrBase
import Derived.BigRegion
import Derived.BigQuiet
import Derived.Deep.QuietTactic
namespace Go.Proofs.YtfbojjhmjcdemaaGreatDoor.St
open Go.RowKit

set_option maxRecDepth 100000 in
set_option maxHeartbeats 1000000 in
/-- two rows of the same texts are alike -/
theorem eq_any (a b : Option Addr) (cap cap' : Nat) (l : List ByteArray) (w : World) (B : Nat) (ha : Strs w B a l) (hb : Strs w B b l) (hn : l.length ≤ 1048576) :
    Calls Tryz.prog 6 #[.slice a l.length cap, .slice b l.length cap'] w fun e w' => e = .returned (.bool true) ∧ Below w.heap.size w w' := by
  have HA := hideT ha
  have HB := hideT hb
  clear ha hb
  obtain ⟨n, hln⟩ : ∃ n, n = l.length := ⟨_, rfl⟩
  have HLN := hideT hln
  rw [← hln] at hn ⊢
  clear hln
  go_enter Tryz.func6, Tryz.ntmps6
  go_wp2_with fail
  go_loopw [5] (fun i wr => ∃ k : Nat, i = .int .i64 k ∧ k ≤ n ∧ (∀ p : Addr, wr.cell? p = w.cell? p) ∧ Below w.heap.size w wr) (fun i _ => n - (intOf i).toNat)
  case atStart => exact ⟨0, rfl, by omega, fun _ => rfl, Below.refl _ _⟩
  case round =>
    obtain ⟨k, rfl, hk, hcell, hbel⟩ := hrel
    have HC := hideT hcell
    have GB := hideT hbel
    by_cases hlt : k < n
    · have hkl : k < l.length := by rw [← HLN.out]; exact hlt
      obtain ⟨b1, off1, rfl, _, hc1⟩ := HA.out.some (by omega)
      obtain ⟨b2, off2, rfl, _, hc2⟩ := HB.out.some (by omega)
      have c1 := (hcell _).trans (hc1 k hkl)
      have c2 := (hcell _).trans (hc2 k hkl)
      obtain ⟨s, hs⟩ : ∃ s, s = l[k] := ⟨_, rfl⟩
      rw [← hs] at c1 c2
      clear hc1 hc2 hcell hbel hs
      go_wp2_with fail
      go_region
      all_goals (try go_wp2_with fail)
      all_goals go_roundw
      case rel => exact ⟨k + 1, by go_num, by omega, fun p => HC.out p, GB.out.drew⟩
      case measure => simp [intOf]; omega
    · clear hcell hbel
      go_wp2_with fail
      go_ret
      exact ⟨rfl, GB.out⟩
end Go.Proofs.YtfbojjhmjcdemaaGreatDoor.St
