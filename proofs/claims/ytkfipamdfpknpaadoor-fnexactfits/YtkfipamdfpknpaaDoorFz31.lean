/- Texts put together: StrRow, StrEq. -/
import Derived.Test.YtkfipamdfpknpaaDoorFz12
import Derived.BigRegion
import Derived.BigQuiet
import Derived.Deep.QuietTactic
/- The laws' own copy of a row of texts. -/
namespace Go.Proofs.YtkfipamdfpknpaaDoor.St
open Go.RowKit
set_option maxRecDepth 100000 in
set_option maxHeartbeats 1000000 in
theorem toStr_any (a : Option Addr) (cap : Nat) (l : List ByteArray) (w : World) (h : Strs w w.heap.size a l) (hn : l.length ≤ 1048576) :
    Calls Tryd.prog 13 #[.slice a l.length cap] w fun e w' => e = .returned (.slice (some ⟨w.heap.size, 0, none⟩) l.length l.length) ∧ IsS w' w.heap.size 9 l ∧ Below w.heap.size w w' := by
  obtain ⟨i0, hi, hz0, hz1, hz2⟩ := info_parts Tryd.infoS9
  have HS := hideT h
  clear h
  obtain ⟨n, hln⟩ : ∃ n, n = l.length := ⟨_, rfl⟩
  have HLN := hideT hln
  rw [← hln] at hn ⊢
  clear hln
  go_enter Tryd.func13, Tryd.ntmps13
  go_wp2_with (at_make; refine wpList_make_full _ rfl (.tmp 6) (.tmp 6) 30 rfl w.heap.size 9 i0 (.string ⟨#[]⟩) 1 Tryd.underlying30 hi hz0 hz1 .i64 .i64 _ _ n rfl rfl (by simp) (by simp) (by rw [hz2]; omega) (by unfold maxLen; omega) (Nat.le_refl _) ?_; intro w1 hown1 hgrow1; have HR := hideT (made_strs hown1); have HB := hideT ((Below.refl w.heap.size w).grown hgrow1 (Nat.le_refl _) (by simp)); clear hown1 hgrow1)
  go_loopw [4] (fun i wr => ∃ k : Nat, i = .int .i64 k ∧ k ≤ n ∧ IsS wr w.heap.size 9 (mid l k) ∧ Below w.heap.size w wr) (fun i _ => n - (intOf i).toNat)
  case atStart => exact ⟨0, rfl, by omega, by rw [mid_zero, ← HLN.out]; exact HR.out, HB.out⟩
  case round =>
    obtain ⟨k, rfl, hk, h1, hbel⟩ := hrel
    have G1 := hideT h1
    have GB := hideT hbel
    by_cases hlt : k < n
    · have hkl : k < l.length := by rw [← HLN.out]; exact hlt
      obtain ⟨b, off, rfl, hb, hc⟩ := (HS.out.below hbel).some (by omega)
      have ci := hc k hkl
      have HM := hideT (mid_next l k hkl)
      have cf := h1.frozen k
      have ce : ∃ v, wr.cell? ⟨w.heap.size, k, none⟩ = some (.string v) := ⟨_, h1.cell (j := k) (by rw [mid_length l k (by omega)]; exact hkl)⟩
      obtain ⟨v0, ce⟩ := ce
      obtain ⟨s, hs⟩ : ∃ s, s = l[k] := ⟨_, rfl⟩
      have HSE := hideT hs
      rw [← hs] at ci
      clear h1 hbel hc hs
      go_wp2_with fail
      go_roundw
      case rel => exact ⟨k + 1, by go_num, by omega, by rw [← HM.out, ← HSE.out]; exact G1.out.set k s, GB.out.setCell (Nat.le_refl _) _⟩
      case measure => simp [intOf]; omega
    · have HE : Hid (mid l k = l) := by
        unfold Hid
        rw [show k = l.length by have := HLN.out; omega]
        exact mid_all l
      clear h1 hbel
      go_wp2_with fail
      go_ret
      exact ⟨rfl, by rw [← HE.out]; exact G1.out, GB.out⟩
end Go.Proofs.YtkfipamdfpknpaaDoor.St


/- The laws' own look whether two rows of texts are alike. -/
namespace Go.Proofs.YtkfipamdfpknpaaDoor.St
open Go.RowKit
set_option maxRecDepth 100000 in
set_option maxHeartbeats 1000000 in
/-- two rows of the same texts are alike -/
theorem eq_any (a b : Option Addr) (cap cap' : Nat) (l : List ByteArray) (w : World) (B : Nat) (ha : Strs w B a l) (hb : Strs w B b l) (hn : l.length ≤ 1048576) :
    Calls Tryd.prog 15 #[.slice a l.length cap, .slice b l.length cap'] w fun e w' => e = .returned (.bool true) ∧ Below w.heap.size w w' := by
  have HA := hideT ha
  have HB := hideT hb
  clear ha hb
  obtain ⟨n, hln⟩ : ∃ n, n = l.length := ⟨_, rfl⟩
  have HLN := hideT hln
  rw [← hln] at hn ⊢
  clear hln
  go_enter Tryd.func15, Tryd.ntmps15
  go_wp2_with fail
  go_loopw [5] (fun i wr => ∃ k : Nat, i = .int .i64 k ∧ k ≤ n ∧ (∀ p : Addr, wr.cell? p = w.cell? p) ∧ Below w.heap.size w wr) (fun i _ => n - (intOf i).toNat)
  case atStart => exact ⟨0, rfl, by omega, fun _ => rfl, Below.refl _ _⟩
  case round =>
    obtain ⟨k, rfl, hk, hcell, hbel⟩ := hrel
    have HC := hideT hcell
    have GB := hideT hbel
    by_cases hlt : k < n
    · have hkl : k < l.length := by rw [← HLN.out]; exact hlt
      obtain ⟨b1, off1, rfl, _, hc1⟩ := HA.out.some (by omega)
      obtain ⟨b2, off2, rfl, _, hc2⟩ := HB.out.some (by omega)
      have c1 := (hcell _).trans (hc1 k hkl)
      have c2 := (hcell _).trans (hc2 k hkl)
      obtain ⟨s, hs⟩ : ∃ s, s = l[k] := ⟨_, rfl⟩
      rw [← hs] at c1 c2
      clear hc1 hc2 hcell hbel hs
      go_wp2_with fail
      go_region
      all_goals (try go_wp2_with fail)
      all_goals go_roundw
      case rel => exact ⟨k + 1, by go_num, by omega, fun p => HC.out p, GB.out.drew⟩
      case measure => simp [intOf]; omega
    · clear hcell hbel
      go_wp2_with fail
      go_ret
      exact ⟨rfl, GB.out⟩
end Go.Proofs.YtkfipamdfpknpaaDoor.St

