/- What both Mac answer. -/
import Derived.Test.YteiicafjjcnioaaDoorMacPad
import Derived.Test.YteiicafjjcnioaaDoorMacSpecPad
import Derived.Test.YteiicafjjcnioaaDoorShaTop
import Derived.Test.YteiicafjjcnioaaDoorJoinWalks
namespace Go.Proofs.YteiicafjjcnioaaDoor.Sh
open Go.RowKit

theorem below4 {w w1 w2 w3 w4 : World} (h1 : Below w.heap.size w w1) (h2 : Below w1.heap.size w1 w2) (h3 : Below w2.heap.size w2 w3) (h4 : Below w3.heap.size w3 w4) : Below w.heap.size w w4 :=
  have a := h1.trans (h2.mono h1.size)
  have b := a.trans (h3.mono a.size)
  b.trans (h4.mono b.size)
theorem below2 {w w1 w2 : World} (h1 : Below w.heap.size w w1) (h2 : Below w1.heap.size w1 w2) : Below w.heap.size w w2 := h1.trans (h2.mono h1.size)

set_option maxRecDepth 100000 in
set_option maxHeartbeats 1000000 in
theorem l02Mac_any (k t : ByteArray) (w : World) (hk : k.size ≤ 8000) (ht : t.size ≤ 8000) :
    Calls Tryd.prog 72 #[.string k, .string t] w fun e w' => e = .returned (.string (macV k t)) ∧ Below w.heap.size w w' := by
  by_cases h : 64 < k.size
  · have HP := hideS (show sha (padV (sha k) 92 ++ sha (padV (sha k) 54 ++ t)) = macV k t by unfold macV innerV; rw [keyV_long k h])
    have hks : (sha k).size ≤ 64 := by rw [sha_size]; decide
    have p54 := padV_size (sha k) 54
    have p92 := padV_size (sha k) 92
    have hss := sha_size (padV (sha k) 54 ++ t)
    go_enter Tryd.func72, Tryd.ntmps72
    go_wp2_with fail
    refine (all_any k w (by omega)).mono ?_
    rintro e w0 ⟨rfl, hb0⟩
    go_wp2_with fail
    refine (specPad_any (sha k) 92 _ hks (by decide)).mono ?_
    rintro e w1 ⟨rfl, hb1⟩
    go_wp2_with fail
    refine (specPad_any (sha k) 54 _ hks (by decide)).mono ?_
    rintro e w2 ⟨rfl, hb2⟩
    go_wp2_with fail
    refine (all_any _ _ (by rw [padV_join]; omega)).mono ?_
    rintro e w3 ⟨rfl, hb3⟩
    go_wp2_with fail
    refine (all_any _ _ (by rw [padV_join, sha_size]; decide)).mono ?_
    rintro e w4 ⟨rfl, hb4⟩
    have HB := hideS (below2 hb0 (below4 hb1 hb2 hb3 hb4))
    go_wp2_with fail
    go_ret
    exact ⟨Nu.ret_strJ HP.out, HB.out⟩
  · have HP := hideS (show sha (padV k 92 ++ sha (padV k 54 ++ t)) = macV k t by unfold macV innerV; rw [keyV_short k h])
    have hks : k.size ≤ 64 := by omega
    have p54 := padV_size k 54
    have p92 := padV_size k 92
    have hss := sha_size (padV k 54 ++ t)
    go_enter Tryd.func72, Tryd.ntmps72
    go_wp2_with fail
    refine (specPad_any k 92 _ hks (by decide)).mono ?_
    rintro e w1 ⟨rfl, hb1⟩
    go_wp2_with fail
    refine (specPad_any k 54 _ hks (by decide)).mono ?_
    rintro e w2 ⟨rfl, hb2⟩
    go_wp2_with fail
    refine (all_any _ _ (by rw [padV_join]; omega)).mono ?_
    rintro e w3 ⟨rfl, hb3⟩
    go_wp2_with fail
    refine (all_any _ _ (by rw [padV_join, sha_size]; decide)).mono ?_
    rintro e w4 ⟨rfl, hb4⟩
    have HB := hideS (below4 hb1 hb2 hb3 hb4)
    go_wp2_with fail
    go_ret
    exact ⟨Nu.ret_strJ HP.out, HB.out⟩

def macR (k t : ByteArray) : ByteArray := if 8000 < k.size ∨ 8000 < t.size then ⟨#[]⟩ else macV k t
theorem macR_no (k t : ByteArray) (h : 8000 < k.size ∨ 8000 < t.size) : macR k t = ⟨#[]⟩ := if_pos h
theorem macR_yes (k t : ByteArray) (h : ¬ 8000 < k.size) (h' : ¬ 8000 < t.size) : macR k t = macV k t := if_neg (by omega)

theorem mac_spec (k t : ByteArray) (w : World) (hk : k.size ≤ maxLen) (ht : t.size ≤ maxLen) :
    Calls Tryd.prog 50 #[.string k, .string t] w fun e w' => e = .returned (.string (macR k t)) ∧ Below w.heap.size w w' := by
  unfold maxLen at hk ht
  by_cases h : 8000 < k.size
  · have HP := hideS (macR_no k t (Or.inl h))
    go_enter Tryd.func50, Tryd.ntmps50
    go_wp2_with fail
    go_ret
    exact ⟨Nu.ret_strJ HP.out.symm, Below.refl _ _⟩
  · by_cases h' : 8000 < t.size
    · have HP := hideS (macR_no k t (Or.inr h'))
      go_enter Tryd.func50, Tryd.ntmps50
      go_wp2_with fail
      go_ret
      exact ⟨Nu.ret_strJ HP.out.symm, Below.refl _ _⟩
    · have HP := hideS (macR_yes k t h h')
      go_enter Tryd.func50, Tryd.ntmps50
      go_wp2_with fail
      refine (l02Mac_any k t _ (by omega) (by omega)).mono ?_
      rintro e w1 ⟨rfl, hb1⟩
      go_wp2_with fail
      go_ret
      exact ⟨Nu.ret_strJ HP.out.symm, hb1⟩

theorem mac_impl (k t : ByteArray) (w : World) (hk : k.size ≤ maxLen) (ht : t.size ≤ maxLen) (hV : Vars w) :
    Calls Tryd.prog 21 #[.string k, .string t] w fun e w' => e = .returned (.string (macR k t)) ∧ Below w.heap.size w w' := by
  unfold maxLen at hk ht
  have HV := hideS hV
  have h2 := hV.two
  clear hV
  by_cases h : 8000 < k.size
  · have HP := hideS (macR_no k t (Or.inl h))
    go_enter Tryd.func21, Tryd.ntmps21
    go_wp2_with fail
    go_ret
    exact ⟨Nu.ret_strJ HP.out.symm, Below.refl _ _⟩
  · by_cases h' : 8000 < t.size
    · have HP := hideS (macR_no k t (Or.inr h'))
      go_enter Tryd.func21, Tryd.ntmps21
      go_wp2_with fail
      go_ret
      exact ⟨Nu.ret_strJ HP.out.symm, Below.refl _ _⟩
    · have HP := hideS (macR_yes k t h h')
      go_enter Tryd.func21, Tryd.ntmps21
      go_wp2_with fail
      refine (pad_any k 54 _ (by omega) (by decide) HV.out).mono ?_
      rintro e w1 ⟨rfl, hb1⟩
      have V1 := hideS (HV.out.below hb1 h2)
      have s1 := hb1.size
      go_wp2_with fail
      refine (Nu.join_any _ t _ (by rw [padV_size]; omega)).mono ?_
      rintro e w2 ⟨rfl, hb2⟩
      have V2 := hideS (V1.out.below hb2 (by omega))
      have s2 := hb2.size
      go_wp2_with fail
      refine (digestOf_any _ _ (by rw [padV_join]; omega) V2.out).mono ?_
      rintro e w3 ⟨rfl, hb3⟩
      have V3 := hideS (V2.out.below hb3 (by omega))
      have s3 := hb3.size
      have HB3 := hideS (below2 hb1 (below2 hb2 hb3))
      clear hb1 hb2 hb3
      go_wp2_with fail
      refine (pad_any k 92 _ (by omega) (by decide) V3.out).mono ?_
      rintro e w4 ⟨rfl, hb4⟩
      have V4 := hideS (V3.out.below hb4 (by omega))
      have s4 := hb4.size
      go_wp2_with fail
      refine (Nu.join_any _ _ _ (by rw [padV_size, sha_size]; decide)).mono ?_
      rintro e w5 ⟨rfl, hb5⟩
      have V5 := hideS (V4.out.below hb5 (by omega))
      go_wp2_with fail
      refine (digestOf_any _ _ (by rw [padV_join, sha_size]; decide) V5.out).mono ?_
      rintro e w6 ⟨rfl, hb6⟩
      have HB6 := hideS (below2 HB3.out (below2 hb4 (below2 hb5 hb6)))
      clear hb4 hb5 hb6
      go_wp2_with fail
      go_ret
      exact ⟨Nu.ret_strJ HP.out.symm, HB6.out⟩
end Go.Proofs.YteiicafjjcnioaaDoor.Sh

namespace Go.Proofs.YteiicafjjcnioaaDoor.fnExactMac
open Go.RowKit
open Go.Proofs.YteiicafjjcnioaaDoor.Sh

theorem walk (k : ByteArray) (hk : k.size ≤ maxLen) (t : ByteArray) (ht : t.size ≤ maxLen) (w : World) (hV : Vars w) :
    Calls Tryd.prog 7 #[.string k, .string t] w fun e w' => e = .returned (.bool true) ∧ Below w.heap.size w w' := by
  have HV := hideS hV
  have h2 := hV.two
  clear hV
  have HK := hideS hk
  have HT := hideS ht
  unfold maxLen at hk ht
  by_cases h : 1048576 < k.size
  · go_enter Tryd.func7, Tryd.ntmps7
    go_wp2_with fail
    go_ret
    exact ⟨rfl, Below.refl _ _⟩
  · by_cases h' : 1048576 < t.size
    · go_enter Tryd.func7, Tryd.ntmps7
      go_wp2_with fail
      go_ret
      exact ⟨rfl, Below.refl _ _⟩
    · go_enter Tryd.func7, Tryd.ntmps7
      go_wp2_with fail
      refine (mac_spec k t _ HK.out HT.out).mono ?_
      rintro e w1 ⟨rfl, hb1⟩
      go_wp2_with fail
      refine (mac_impl k t _ HK.out HT.out (HV.out.below hb1 h2)).mono ?_
      rintro e w2 ⟨rfl, hb2⟩
      have HB := hideS (below2 hb1 hb2)
      clear hb1 hb2
      go_wp2_with fail
      go_ret
      exact ⟨rfl, HB.out⟩
end Go.Proofs.YteiicafjjcnioaaDoor.fnExactMac
