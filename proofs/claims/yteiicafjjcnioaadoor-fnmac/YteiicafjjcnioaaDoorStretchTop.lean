/- What both Stretch answer. -/
import Derived.Test.YteiicafjjcnioaaDoorMacTop
namespace Go.Proofs.YteiicafjjcnioaaDoor.Sh
open Go.RowKit

/-- the pass behind k rounds -/
def strK (p : ByteArray) : Nat → ByteArray
  | 0 => ⟨#[115, 97, 108, 116]⟩
  | k + 1 => macV p (strK p k)
theorem strK_size (p : ByteArray) (k : Nat) : (strK p k).size ≤ 32 := by
  cases k with
  | zero => exact show (⟨#[115, 97, 108, 116]⟩ : ByteArray).size ≤ 32 by decide
  | succ k => exact Nat.le_of_eq (macV_size _ _)
def strV (p : ByteArray) (r : Int) : ByteArray := if 8000 < p.size ∨ r < 1 ∨ 100 < r then ⟨#[]⟩ else strK p r.toNat
theorem strV_no (p : ByteArray) (r : Int) (h : 8000 < p.size ∨ r < 1 ∨ 100 < r) : strV p r = ⟨#[]⟩ := if_pos h
theorem strV_yes (p : ByteArray) (n : Nat) (h : ¬ 8000 < p.size) (h1 : 1 ≤ n) (h2 : n ≤ 100) : strV p n = strK p n := by
  unfold strV
  rw [if_neg (by omega)]
  rfl

set_option maxHeartbeats 1000000 in
theorem stretch_spec (p : ByteArray) (r : Int) (w : World) (hp : p.size ≤ maxLen) :
    Calls Tryd.prog 26 #[.string p, .int .i64 r] w fun e w' => e = .returned (.string (strV p r)) ∧ Below w.heap.size w w' := by
  unfold maxLen at hp
  by_cases h : 8000 < p.size
  · have HP := hideS (strV_no p r (Or.inl h))
    go_enter Tryd.func26, Tryd.ntmps26
    go_wp2_with fail
    go_ret
    exact ⟨Nu.ret_strJ HP.out.symm, Below.refl _ _⟩
  · by_cases h1 : r < 1
    · have HP := hideS (strV_no p r (Or.inr (Or.inl h1)))
      go_enter Tryd.func26, Tryd.ntmps26
      go_wp2_with fail
      go_ret
      exact ⟨Nu.ret_strJ HP.out.symm, Below.refl _ _⟩
    · by_cases h3 : 100 < r
      · have HP := hideS (strV_no p r (Or.inr (Or.inr h3)))
        go_enter Tryd.func26, Tryd.ntmps26
        go_wp2_with fail
        go_ret
        exact ⟨Nu.ret_strJ HP.out.symm, Below.refl _ _⟩
      · obtain ⟨n, rfl⟩ : ∃ n : Nat, r = n := ⟨r.toNat, by omega⟩
        have HP := hideS (strV_yes p n h (by omega) (by omega))
        go_enter Tryd.func26, Tryd.ntmps26
        go_wp2_with fail
        go_loopw [6, 5] (fun i s wr => ∃ k : Nat, i = .int .i64 k ∧ k ≤ n ∧ s = .string (strK p k) ∧ Below w.heap.size w wr) (fun i _ _ => n - (intOf i).toNat)
        case atStart => exact ⟨0, rfl, by omega, rfl, Below.refl _ _⟩
        case round =>
          obtain ⟨k, rfl, hk, rfl, hbel⟩ := hrel
          by_cases hlt : k < n
          · go_wp2_with fail
            refine (l02Mac_any p (strK p k) _ (by omega) (Nat.le_trans (strK_size p k) (by decide))).mono ?_
            rintro e w1 ⟨rfl, hb1⟩
            have HB := hideS (hbel.trans (hb1.mono hbel.size))
            clear hb1
            go_wp2_with fail
            go_roundw
            case rel => exact ⟨k + 1, by go_num, by omega, rfl, HB.out⟩
            case measure => simp [intOf]; omega
          · have HE : Hid (strK p k = strK p n) := by
              unfold Hid
              rw [show k = n by omega]
            go_wp2_with fail
            go_ret
            exact ⟨Nu.ret_strJ (HE.out.trans HP.out.symm), hbel⟩

set_option maxHeartbeats 1000000 in
theorem stretch_impl (p : ByteArray) (r : Int) (w : World) (hp : p.size ≤ maxLen) (hV : Vars w) :
    Calls Tryd.prog 25 #[.string p, .int .i64 r] w fun e w' => e = .returned (.string (strV p r)) ∧ Below w.heap.size w w' := by
  have HM := hideS hp
  unfold maxLen at hp
  have HV := hideS hV
  have hsz2 := hV.two
  clear hV
  by_cases h : 8000 < p.size
  · have HP := hideS (strV_no p r (Or.inl h))
    go_enter Tryd.func25, Tryd.ntmps25
    go_wp2_with fail
    go_ret
    exact ⟨Nu.ret_strJ HP.out.symm, Below.refl _ _⟩
  · by_cases h1 : r < 1
    · have HP := hideS (strV_no p r (Or.inr (Or.inl h1)))
      go_enter Tryd.func25, Tryd.ntmps25
      go_wp2_with fail
      go_ret
      exact ⟨Nu.ret_strJ HP.out.symm, Below.refl _ _⟩
    · by_cases h3 : 100 < r
      · have HP := hideS (strV_no p r (Or.inr (Or.inr h3)))
        go_enter Tryd.func25, Tryd.ntmps25
        go_wp2_with fail
        go_ret
        exact ⟨Nu.ret_strJ HP.out.symm, Below.refl _ _⟩
      · obtain ⟨n, rfl⟩ : ∃ n : Nat, r = n := ⟨r.toNat, by omega⟩
        have HP := hideS (strV_yes p n h (by omega) (by omega))
        go_enter Tryd.func25, Tryd.ntmps25
        go_wp2_with fail
        go_loopw [18, 5] (fun i s wr => ∃ k : Nat, i = .int .i64 k ∧ k ≤ n ∧ s = .string (strK p k) ∧ Below w.heap.size w wr) (fun i _ _ => n - (intOf i).toNat)
        case atStart => exact ⟨0, rfl, by omega, rfl, Below.refl _ _⟩
        case round =>
          obtain ⟨k, rfl, hk, rfl, hbel⟩ := hrel
          by_cases hlt : k < n
          · have HQ := hideS (macR_yes p (strK p k) h (by have := strK_size p k; omega))
            go_wp2_with fail
            refine (mac_impl p (strK p k) _ HM.out (Nat.le_trans (strK_size p k) (by decide)) (HV.out.below hbel hsz2)).mono ?_
            rw [HQ.out]
            rintro e w1 ⟨rfl, hb1⟩
            have HB := hideS (hbel.trans (hb1.mono hbel.size))
            clear hb1
            go_wp2_with fail
            go_roundw
            case rel => exact ⟨k + 1, by go_num, by omega, rfl, HB.out⟩
            case measure => simp [intOf]; omega
          · have HE : Hid (strK p k = strK p n) := by
              unfold Hid
              rw [show k = n by omega]
            go_wp2_with fail
            go_ret
            exact ⟨Nu.ret_strJ (HE.out.trans HP.out.symm), hbel⟩
end Go.Proofs.YteiicafjjcnioaaDoor.Sh

namespace Go.Proofs.YteiicafjjcnioaaDoor.fnExactStretch
open Go.RowKit
open Go.Proofs.YteiicafjjcnioaaDoor.Sh

theorem walk (p : ByteArray) (hp : p.size ≤ maxLen) (r : Int) (_ : (Lit.int .i64 r).wf = true) (w : World) (hV : Vars w) :
    Calls Tryd.prog 8 #[.string p, .int .i64 r] w fun e w' => e = .returned (.bool true) ∧ Below w.heap.size w w' := by
  have HV := hideS hV
  have h2 := hV.two
  clear hV
  have HK := hideS hp
  unfold maxLen at hp
  by_cases h : 1048576 < p.size
  · go_enter Tryd.func8, Tryd.ntmps8
    go_wp2_with fail
    go_ret
    exact ⟨rfl, Below.refl _ _⟩
  · go_enter Tryd.func8, Tryd.ntmps8
    go_wp2_with fail
    refine (stretch_spec p r _ HK.out).mono ?_
    rintro e w1 ⟨rfl, hb1⟩
    go_wp2_with fail
    refine (stretch_impl p r _ HK.out (HV.out.below hb1 h2)).mono ?_
    rintro e w2 ⟨rfl, hb2⟩
    have HB := hideS (below2 hb1 hb2)
    clear hb1 hb2
    go_wp2_with fail
    go_ret
    exact ⟨rfl, HB.out⟩
end Go.Proofs.YteiicafjjcnioaaDoor.fnExactStretch
