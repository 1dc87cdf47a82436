/- What both PathOf answer, and the law on it. -/
import Derived.Test.YteiicafjjcnioaaDoorPathWalks
import Derived.Test.YteiicafjjcnioaaDoorPathSpec
import Derived.Test.YteiicafjjcnioaaDoorTreeTop
import Derived.Test.YteiicafjjcnioaaDoorHeld
namespace Go.Proofs.YteiicafjjcnioaaDoor.Tr
open Go.RowKit
open Go.Proofs.YteiicafjjcnioaaDoor.St
open Go.Proofs.YteiicafjjcnioaaDoor.Sh (Vars own_empty)

theorem pathR_yes (l : List ByteArray) (i : Nat) (h : right l = true) (hi : i < l.length) : pathR l i = path l i := by
  unfold pathR
  rw [if_pos ⟨h, by omega, by omega⟩]
  rfl
theorem pathR_no (l : List ByteArray) (i : Int) (h : ¬ (right l = true ∧ 0 ≤ i ∧ i < l.length)) : pathR l i = [] := if_neg h
theorem pathR_length (l : List ByteArray) (i : Int) : (pathR l i).length ≤ l.length := by
  unfold pathR
  split
  · exact path_length _ l _ (Nat.le_refl _)
  · simp

set_option maxHeartbeats 1000000 in
theorem pathOf_impl (l : List ByteArray) (n : Nat) (i : Int) (a : Option Addr) (cap B : Nat) (w : World) (hln : l.length = n) (hcap : n ≤ cap) (hn : n ≤ 1048576) (hs : Strs w B a l) (hB : B ≤ w.heap.size) (hV : Vars w) :
    Calls Tryd.prog 29 #[.slice a n cap, .int .i64 i] w fun e w' => ∃ v, e = .returned v ∧ OwnS w' w.heap.size v (pathR l i) ∧ Below w.heap.size w w' := by
  have HR := hideT (right_impl a cap l w B hs (by omega))
  rw [hln] at HR
  have HS := hideT hs
  have HV := hideT hV
  clear hs hV
  cases hr : right l with
  | false =>
    have HT := hideT (pathR_no l i (fun h => by rw [hr] at h; cases h.1))
    rw [hr] at HR
    go_enter Tryd.func29, Tryd.ntmps29
    go_wp2_with fail
    refine HR.out.mono ?_
    rintro e w1 ⟨rfl, hw⟩
    subst w1
    go_wp2_with fail
    go_ret
    exact ⟨_, rfl, by rw [HT.out]; exact OwnS.nil _ _, Below.refl _ _⟩
  | true =>
    have HY := hideT ((right_yes l).1 hr)
    rw [hr] at HR
    by_cases h0 : i < 0
    · have HT := hideT (pathR_no l i (fun h => by omega))
      go_enter Tryd.func29, Tryd.ntmps29
      go_wp2_with fail
      refine HR.out.mono ?_
      rintro e w1 ⟨rfl, hw⟩
      subst w1
      go_wp2_with fail
      go_ret
      exact ⟨_, rfl, by rw [HT.out]; exact OwnS.nil _ _, Below.refl _ _⟩
    · by_cases h1 : (n : Int) ≤ i
      · have HT := hideT (pathR_no l i (fun h => by omega))
        go_enter Tryd.func29, Tryd.ntmps29
        go_wp2_with fail
        refine HR.out.mono ?_
        rintro e w1 ⟨rfl, hw⟩
        subst w1
        go_wp2_with fail
        go_ret
        exact ⟨_, rfl, by rw [HT.out]; exact OwnS.nil _ _, Below.refl _ _⟩
      · obtain ⟨k, rfl⟩ : ∃ k : Nat, i = k := ⟨i.toNat, by omega⟩
        have HT := hideT (pathR_yes l k hr (by omega))
        go_enter Tryd.func29, Tryd.ntmps29
        go_wp2_with fail
        refine HR.out.mono ?_
        rintro e w1 ⟨rfl, hw⟩
        subst w1
        go_wp2_with fail
        refine (path_impl n n k l a cap B _ (Nat.le_refl _) hln (by omega) (by omega) hcap (by have := HY.out.1; omega) HY.out.2 HS.out hB HV.out).mono ?_
        rintro e w2 ⟨v, rfl, ho2, hb2⟩
        have HO2 := hideT ho2
        clear ho2
        go_wp2_with fail
        go_ret
        exact ⟨_, rfl, by rw [HT.out]; exact HO2.out, hb2⟩

set_option maxHeartbeats 1000000 in
theorem pathOf_spec (l : List ByteArray) (n : Nat) (i : Int) (a : Option Addr) (cap B : Nat) (w : World) (hln : l.length = n) (hcap : n ≤ cap) (hn : n ≤ 1048576) (hs : Strs w B a l) (hB : B ≤ w.heap.size) :
    Calls Tryd.prog 32 #[.slice a n cap, .int .i64 i] w fun e w' => ∃ v, e = .returned v ∧ OwnS w' w.heap.size v (pathR l i) ∧ Below w.heap.size w w' := by
  have HR := hideT (right_spec a cap l w B hs (by omega))
  rw [hln] at HR
  have HS := hideT hs
  clear hs
  by_cases h400 : 400 < n
  · have HT := hideT (pathR_no l i (fun h => by have := ((right_yes l).1 h.1).1; omega))
    go_enter Tryd.func32, Tryd.ntmps32
    go_wp2_with fail
    go_ret
    exact ⟨_, rfl, by rw [HT.out]; exact own_empty _ _ _ (Nat.le_refl _), (Below.refl _ _).alloc (Nat.le_refl _) _⟩
  · cases hr : right l with
    | false =>
      have HT := hideT (pathR_no l i (fun h => by rw [hr] at h; cases h.1))
      rw [hr] at HR
      go_enter Tryd.func32, Tryd.ntmps32
      go_wp2_with fail
      refine HR.out.mono ?_
      rintro e w1 ⟨rfl, hw⟩
      subst w1
      go_wp2_with fail
      go_ret
      exact ⟨_, rfl, by rw [HT.out]; exact own_empty _ _ _ (Nat.le_refl _), (Below.refl _ _).alloc (Nat.le_refl _) _⟩
    | true =>
      have HY := hideT ((right_yes l).1 hr)
      rw [hr] at HR
      by_cases h0 : i < 0
      · have HT := hideT (pathR_no l i (fun h => by omega))
        go_enter Tryd.func32, Tryd.ntmps32
        go_wp2_with fail
        refine HR.out.mono ?_
        rintro e w1 ⟨rfl, hw⟩
        subst w1
        go_wp2_with fail
        go_ret
        exact ⟨_, rfl, by rw [HT.out]; exact own_empty _ _ _ (Nat.le_refl _), (Below.refl _ _).alloc (Nat.le_refl _) _⟩
      · by_cases h1 : (n : Int) ≤ i
        · have HT := hideT (pathR_no l i (fun h => by omega))
          go_enter Tryd.func32, Tryd.ntmps32
          go_wp2_with fail
          refine HR.out.mono ?_
          rintro e w1 ⟨rfl, hw⟩
          subst w1
          go_wp2_with fail
          go_ret
          exact ⟨_, rfl, by rw [HT.out]; exact own_empty _ _ _ (Nat.le_refl _), (Below.refl _ _).alloc (Nat.le_refl _) _⟩
        · obtain ⟨k, rfl⟩ : ∃ k : Nat, i = k := ⟨i.toNat, by omega⟩
          have HT := hideT (pathR_yes l k hr (by omega))
          go_enter Tryd.func32, Tryd.ntmps32
          go_wp2_with fail
          refine HR.out.mono ?_
          rintro e w1 ⟨rfl, hw⟩
          subst w1
          go_wp2_with fail
          refine (path_spec n n k l a cap B _ (Nat.le_refl _) hln (by omega) (by omega) hcap (by have := HY.out.1; omega) HY.out.2 HS.out hB).mono ?_
          rintro e w2 ⟨v, rfl, ho2, hb2⟩
          have HO2 := hideT ho2
          clear ho2
          go_wp2_with fail
          go_ret
          exact ⟨_, rfl, by rw [HT.out]; exact HO2.out, hb2⟩
end Go.Proofs.YteiicafjjcnioaaDoor.Tr
