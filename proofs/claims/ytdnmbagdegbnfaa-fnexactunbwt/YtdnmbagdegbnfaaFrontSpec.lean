/- The row of all bytes in memory: how the specification makes it, and brings a byte to its front. -/
import Derived.Test.YtdnmbagdegbnfaaFrontRow
import Derived.Test.YtdnmbagdegbnfaaShaBytes
namespace Go.Proofs.Ytdnmbagdegbnfaa.Fr
open Go.RowKit
open Go.Proofs.Ytdnmbagdegbnfaa.Sh (IsB rowF upd made_row upd_same upd_other)
open Go.Proofs.Ytdnmbagdegbnfaa.Ze (hideZ)
open Go.Proofs.Ytdnmbagdegbnfaa.St (Aft)

set_option maxRecDepth 100000 in
set_option maxHeartbeats 1000000 in
theorem row_spec (w : World) :
    Calls Try.prog 119 #[] w fun e w' => e = .returned (.slice (some ⟨w.heap.size, 0, none⟩) 256 256) ∧ IsB w' w.heap.size 5 .u8 256 row0 ∧ Below w.heap.size w w' := by
  obtain ⟨i0, hi, hz0, hz1, hz2⟩ := info_parts Nu.Try.infoJ5
  go_enter Try.func119, Try.ntmps119
  go_wp2_with (at_make; refine wpList_make_full _ rfl (.const (.int .i64 256)) (.const (.int .i64 256)) 22 rfl w.heap.size 5 i0 (.int .u8 0) 1 Try.underlying22 hi hz0 hz1 .i64 .i64 _ _ 256 rfl rfl (by simp) (by simp) (by rw [hz2]; omega) (by unfold maxLen; omega) (Nat.le_refl _) ?_; intro w1 hown1 hgrow1; have HR := hideZ (made_row hown1); have HB := hideZ ((Below.refl w.heap.size w).grown hgrow1 (Nat.le_refl _) (by simp)); clear hown1 hgrow1)
  go_loopw [2] (fun i wr => ∃ k : Nat, i = .int .i64 k ∧ k ≤ 256 ∧ IsB wr w.heap.size 5 .u8 256 (rise k) ∧ Below w.heap.size w wr) (fun i _ => 256 - (intOf i).toNat)
  case atStart => exact ⟨0, rfl, by omega, HR.out.congr (fun j _ => by unfold rise; rw [if_neg (by omega)]), HB.out⟩
  case round =>
    obtain ⟨k, rfl, hk, h1, hbel⟩ := hrel
    have G1 := hideZ h1
    have GB := hideZ hbel
    by_cases hlt : k < 256
    · have ck := h1.cell (j := k) hlt
      have fk := h1.frozen k
      have hwr : ((k : Int)) % 256 = (k : Int) := by omega
      have HN := hideZ (h1.set k (k : Int))
      clear h1 hbel
      go_wp2_with fail
      go_roundw
      case rel => exact ⟨k + 1, by go_num, by omega, HN.out.congr (fun j _ => rise_next k j), GB.out.setCell (by simp) _⟩
      case measure => simp [intOf]; omega
    · obtain rfl : k = 256 := by omega
      have G2 := hideZ (h1.congr (fun j hj => rise_all j hj))
      clear h1 hbel
      go_wp2_with fail
      go_ret
      exact ⟨rfl, G2.out, GB.out⟩

/-- the bytes from a place on, one place up -/
def downF (f : Nat → Int) (p k : Nat) : Nat → Int := fun j => if k < j ∧ j ≤ p then f (j - 1) else f j
theorem down_start (f : Nat → Int) (p j : Nat) : downF f p p j = f j := by
  unfold downF
  rw [if_neg (by omega)]
theorem down_next (f : Nat → Int) (p k j : Nat) (h : k + 1 ≤ p) : upd (downF f p (k + 1)) (k + 1) (f k) j = downF f p k j := by
  unfold upd downF
  by_cases e : j = k + 1
  · subst e
    rw [if_pos rfl, if_pos (by omega)]
    rfl
  · rw [if_neg e]
    by_cases h2 : k + 1 < j ∧ j ≤ p
    · rw [if_pos h2, if_pos (by omega)]
    · rw [if_neg h2, if_neg (by omega)]
theorem down_at (f : Nat → Int) (p k : Nat) : downF f p (k + 1) k = f k := by
  unfold downF
  rw [if_neg (by omega)]
theorem down_front (f : Nat → Int) (p j : Nat) : upd (downF f p 0) 0 (f p) j = front f p j := by
  unfold upd downF front
  by_cases h : j = 0
  · rw [if_pos h, if_pos h]
  · rw [if_neg h, if_neg h]
    by_cases h2 : j ≤ p
    · rw [if_pos (by omega), if_pos h2]
    · rw [if_neg (by omega), if_neg h2]

set_option maxRecDepth 100000 in
set_option maxHeartbeats 1000000 in
theorem front_spec (g p c : Nat) (t : TypeId) (f : Nat → Int) (w : World) (hb : IsB w g t .u8 256 f) (hp : p < 256) :
    Calls Try.prog 120 #[.slice (some ⟨g, 0, none⟩) 256 c, .int .i64 p] w fun e w' => e = .returned (.tuple #[]) ∧ IsB w' g t .u8 256 (front f p) ∧ Aft g w w' := by
  have c0 := hb.cell hp
  have HB := hideZ hb
  have HA := hideZ (Aft.refl g w)
  obtain ⟨x, hx⟩ : ∃ x, x = f p := ⟨_, rfl⟩
  have HX := hideZ hx
  rw [← hx] at c0
  clear hx hb
  go_enter Try.func120, Try.ntmps120
  go_wp2_with fail
  go_loopw [1] (fun i wr => ∃ k : Nat, i = .int .i64 k ∧ k ≤ p ∧ IsB wr g t .u8 256 (downF f p k) ∧ Aft g w wr) (fun i _ => (intOf i).toNat)
  case atStart => exact ⟨p, rfl, Nat.le_refl _, HB.out.congr (fun j _ => (down_start f p j).symm), HA.out⟩
  case round =>
    obtain ⟨k, rfl, hk, h1, ha⟩ := hrel
    have G1 := hideZ h1
    have GA := hideZ ha
    cases k with
    | zero =>
      have c1 := h1.cell (j := 0) (by omega)
      have f1 := h1.frozen 0
      have HF := hideZ (h1.set 0 x)
      clear h1 ha
      go_wp2_with fail
      refine bodyPost_end (v := .tuple #[]) (by simp [results, Try.results120, go_sem]) rfl ⟨rfl, HF.out.congr (fun j _ => ?_), GA.out.set 0 _⟩
      rw [HX.out]
      exact down_front f p j
    | succ k =>
      have c1 := h1.cell (j := k) (by omega)
      have c2 := h1.cell (j := k + 1) (by omega)
      have f1 := h1.frozen (k + 1)
      obtain ⟨y, hy⟩ : ∃ y, y = f k := ⟨_, rfl⟩
      rw [down_at, ← hy] at c1
      have HF : Hid (IsB (wr.setCell ⟨g, k + 1, none⟩ (.int .u8 y)) g t .u8 256 (downF f p k)) := by
        have := (h1.set (k + 1) y).congr (f' := downF f p k) (fun j _ => by rw [hy]; exact down_next f p k j hk)
        exact this
      have e1 : ((k + 1 : Nat) : Int) = (k : Int) + 1 := by omega
      have e2 : ((k : Int) + 1).toNat = k + 1 := by omega
      rw [e1]
      clear h1 ha hy e1
      go_wp2_with fail
      go_roundw
      case rel => exact ⟨k, by go_num, by omega, HF.out, GA.out.set (k + 1) _⟩
      case measure => simp [intOf]
end Go.Proofs.Ytdnmbagdegbnfaa.Fr
