/- What both TreeHash answer, and the law on it. -/
import Derived.Test.YteiicafjjcnioaaDoorTreeWalks
import Derived.Test.YteiicafjjcnioaaDoorTreeSpec
import Derived.Test.YteiicafjjcnioaaDoorStrArg
namespace Go.Proofs.YteiicafjjcnioaaDoor.Tr
open Go.RowKit
open Go.Proofs.YteiicafjjcnioaaDoor.St
open Go.Proofs.YteiicafjjcnioaaDoor.Sh (Vars)

theorem below2 {w w1 w2 : World} (h1 : Below w.heap.size w w1) (h2 : Below w1.heap.size w1 w2) : Below w.heap.size w w2 := h1.trans (h2.mono h1.size)
theorem treeR_yes (l : List ByteArray) (h : right l = true) : treeR l = tree l := if_pos h
theorem treeR_no (l : List ByteArray) (h : right l = false) : treeR l = ⟨#[]⟩ := if_neg (by rw [h]; decide)

theorem treeHash_impl (l : List ByteArray) (n : Nat) (a : Option Addr) (cap B : Nat) (w : World) (hln : l.length = n) (hcap : n ≤ cap) (hn : n ≤ 1048576) (hs : Strs w B a l) (hB : B ≤ w.heap.size) (hV : Vars w) :
    Calls Tryd.prog 28 #[.slice a n cap] w fun e w' => e = .returned (.string (treeR l)) ∧ Below w.heap.size w w' := by
  have HR := hideT (right_impl a cap l w B hs (by omega))
  rw [hln] at HR
  have HS := hideT hs
  have HV := hideT hV
  clear hs hV
  cases hr : right l with
  | false =>
    have HT := hideT (treeR_no l hr)
    rw [hr] at HR
    go_enter Tryd.func28, Tryd.ntmps28
    go_wp2_with fail
    refine HR.out.mono ?_
    rintro e w1 ⟨rfl, hw⟩
    subst w1
    go_wp2_with fail
    go_ret
    exact ⟨Nu.ret_strJ HT.out.symm, Below.refl _ _⟩
  | true =>
    have HT := hideT (treeR_yes l hr)
    have HY := hideT ((right_yes l).1 hr)
    rw [hr] at HR
    go_enter Tryd.func28, Tryd.ntmps28
    go_wp2_with fail
    refine HR.out.mono ?_
    rintro e w1 ⟨rfl, hw⟩
    subst w1
    go_wp2_with fail
    refine (tree_impl n n l a cap B _ (Nat.le_refl _) hln hcap (by have := HY.out.1; omega) HY.out.2 HS.out hB HV.out).mono ?_
    rintro e w2 ⟨rfl, hb2⟩
    go_wp2_with fail
    go_ret
    exact ⟨Nu.ret_strJ HT.out.symm, hb2⟩

theorem treeHash_spec (l : List ByteArray) (n : Nat) (a : Option Addr) (cap B : Nat) (w : World) (hln : l.length = n) (hcap : n ≤ cap) (hn : n ≤ 1048576) (hs : Strs w B a l) (hB : B ≤ w.heap.size) :
    Calls Tryd.prog 30 #[.slice a n cap] w fun e w' => e = .returned (.string (treeR l)) ∧ Below w.heap.size w w' := by
  have HR := hideT (right_spec a cap l w B hs (by omega))
  rw [hln] at HR
  have HS := hideT hs
  clear hs
  by_cases h400 : 400 < n
  · have HT := hideT (treeR_no l (right_long l (by omega)))
    go_enter Tryd.func30, Tryd.ntmps30
    go_wp2_with fail
    go_ret
    exact ⟨Nu.ret_strJ HT.out.symm, Below.refl _ _⟩
  · cases hr : right l with
    | false =>
      have HT := hideT (treeR_no l hr)
      rw [hr] at HR
      go_enter Tryd.func30, Tryd.ntmps30
      go_wp2_with fail
      refine HR.out.mono ?_
      rintro e w1 ⟨rfl, hw⟩
      subst w1
      go_wp2_with fail
      go_ret
      exact ⟨Nu.ret_strJ HT.out.symm, Below.refl _ _⟩
    | true =>
      have HT := hideT (treeR_yes l hr)
      have HY := hideT ((right_yes l).1 hr)
      rw [hr] at HR
      go_enter Tryd.func30, Tryd.ntmps30
      go_wp2_with fail
      refine HR.out.mono ?_
      rintro e w1 ⟨rfl, hw⟩
      subst w1
      go_wp2_with fail
      refine (tree_spec n n l a cap B _ (Nat.le_refl _) hln hcap (by have := HY.out.1; omega) HY.out.2 HS.out hB).mono ?_
      rintro e w2 ⟨rfl, hb2⟩
      go_wp2_with fail
      go_ret
      exact ⟨Nu.ret_strJ HT.out.symm, hb2⟩
end Go.Proofs.YteiicafjjcnioaaDoor.Tr

namespace Go.Proofs.YteiicafjjcnioaaDoor.fnExactTreeHash
open Go.RowKit
open Go.Proofs.YteiicafjjcnioaaDoor.St
open Go.Proofs.YteiicafjjcnioaaDoor.Tr
open Go.Proofs.YteiicafjjcnioaaDoor.Sh (Vars)

set_option maxHeartbeats 1000000 in
theorem walk_in (l : List ByteArray) (a : Option Addr) (cap : Nat) (w : World) (hs : Strs w w.heap.size a l) (hn : l.length ≤ maxLen) (hz : ∀ s ∈ l, s.size ≤ maxLen) (hV : Vars w) :
    Calls Tryd.prog 11 #[.slice a l.length cap] w fun e w' => e = .returned (.bool true) ∧ Below w.heap.size w w' := by
  have HS := hideT hs
  have HV := hideT hV
  have hv2 := hV.two
  have HZ := hideT (sz_any a cap l w hs hn hz)
  have HTo := hideT (fun W (hW : Below w.heap.size w W) (h : l.length ≤ 1048576) => toStr_any a cap l W ((HS.out.below hW).mono hW.size) h)
  have HEq := hideT (fun (x y : Option Addr) (W : World) (B : Nat) (h : l.length ≤ 1048576) hx hy => eq_any x y l.length l.length l W B hx hy h)
  have HI := hideT (fun (x : Option Addr) (W : World) (B : Nat) (h : l.length ≤ 1048576) hx hB hV => treeHash_impl l l.length x l.length B W rfl (Nat.le_refl _) h hx hB hV)
  have HP := hideT (fun (x : Option Addr) (W : World) (B : Nat) (h : l.length ≤ 1048576) hx hB => treeHash_spec l l.length x l.length B W rfl (Nat.le_refl _) h hx hB)
  clear hs hV hz
  unfold maxLen at hn
  generalize l.length = n at hn HZ HTo HEq HI HP ⊢
  go_enter Tryd.func11, Tryd.ntmps11
  go_wp2_with fail
  refine HZ.out.mono ?_
  rintro e w' ⟨r, rfl, hr, hw⟩
  subst w'
  by_cases hneg : r < 0
  · go_wp2_with fail
    go_ret
    exact ⟨rfl, Below.refl _ _⟩
  · have hn20 := (hr (by omega)).1
    have HN := hideT hn20
    clear hr
    go_wp2_with fail
    refine (HTo.out w (Below.refl _ _) HN.out).mono ?_
    rintro e w1 ⟨rfl, hi1, hb1⟩
    have S1 := hideT (hi1.strs hi1.lt)
    have B1 := hideT hb1
    clear hi1 hb1
    go_wp2_with fail
    refine (HP.out (some ⟨w.heap.size, 0, none⟩) w1 w1.heap.size HN.out S1.out (Nat.le_refl _)).mono ?_
    rintro e w2 ⟨rfl, hb2⟩
    have B2 := hideT (below2 B1.out hb2)
    clear hb2
    go_wp2_with fail
    refine (HTo.out w2 B2.out HN.out).mono ?_
    rintro e w3 ⟨rfl, hi3, hb3⟩
    have I3 := hideT hi3
    have B3 := hideT (below2 B2.out hb3)
    clear hi3 hb3
    go_wp2_with fail
    refine (HI.out (some ⟨w2.heap.size, 0, none⟩) w3 w3.heap.size HN.out (I3.out.strs I3.out.lt) (Nat.le_refl _) (HV.out.below B3.out hv2)).mono ?_
    rintro e w4 ⟨rfl, hb4⟩
    have I4 := hideT (I3.out.below hb4 I3.out.lt)
    have B4 := hideT (below2 B3.out hb4)
    clear hb4
    go_wp2_with fail
    refine (HTo.out w4 B4.out HN.out).mono ?_
    rintro e w5 ⟨rfl, hi5, hb5⟩
    have I5 := hideT (I4.out.below hb5 I4.out.lt)
    have J5 := hideT hi5
    have B5 := hideT (below2 B4.out hb5)
    clear hb5 hi5
    go_wp2_with fail
    refine (HEq.out (some ⟨w2.heap.size, 0, none⟩) (some ⟨w4.heap.size, 0, none⟩) w5 w5.heap.size HN.out (I5.out.strs I5.out.lt) (J5.out.strs J5.out.lt)).mono ?_
    rintro e w6 ⟨rfl, hb6⟩
    have B6 := hideT (below2 B5.out hb6)
    clear hb6
    go_wp2_with fail
    go_ret
    exact ⟨rfl, B6.out⟩

theorem walk (a0 : Option Addr) (len0 cap0 : Nat) (z0 : List ByteArray) {w : World} (w0 : IsStrs w a0 len0 cap0 z0) (hV : Vars w) :
    Calls Tryd.prog 11 #[.slice a0 len0 cap0] w fun e w' => e = .returned (.bool true) ∧ Below w.heap.size w w' := by
  obtain ⟨l, rfl, hs, hm, _, hz⟩ := strs_of w0
  exact walk_in l a0 cap0 w hs hm hz hV
end Go.Proofs.YteiicafjjcnioaaDoor.fnExactTreeHash
