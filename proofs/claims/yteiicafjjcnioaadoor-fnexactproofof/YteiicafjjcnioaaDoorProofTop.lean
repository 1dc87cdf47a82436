/- What both ProofOf answer, and the law on it. -/
import Derived.Test.YteiicafjjcnioaaDoorProofWalks
import Derived.Test.YteiicafjjcnioaaDoorProofSpec
import Derived.Test.YteiicafjjcnioaaDoorTreeTop
import Derived.Test.YteiicafjjcnioaaDoorHeld
namespace Go.Proofs.YteiicafjjcnioaaDoor.Tr
open Go.RowKit
open Go.Proofs.YteiicafjjcnioaaDoor.St
open Go.Proofs.YteiicafjjcnioaaDoor.Sh (Vars own_empty)

set_option maxHeartbeats 1000000 in
theorem proofOf_impl (l : List ByteArray) (n : Nat) (i : Int) (a : Option Addr) (cap B : Nat) (w : World) (hln : l.length = n) (hcap : n ≤ cap) (hn : n ≤ 1048576) (hs : Strs w B a l) (hB : B ≤ w.heap.size) (hV : Vars w) :
    Calls Tryd.prog 45 #[.slice a n cap, .int .i64 i] w fun e w' => ∃ v, e = .returned v ∧ OwnS w' w.heap.size v (proofR l i) ∧ Below w.heap.size w w' := by
  have HR := hideT (right_impl a cap l w B hs (by omega))
  rw [hln] at HR
  have HS := hideT hs
  have HV := hideT hV
  clear hs hV
  cases hr : right l with
  | false =>
    have HT := hideT (proofR_no l i (fun h => by rw [hr] at h; cases h.1))
    rw [hr] at HR
    go_enter Tryd.func45, Tryd.ntmps45
    go_wp2_with fail
    refine HR.out.mono ?_
    rintro e w1 ⟨rfl, hw⟩
    subst w1
    go_wp2_with fail
    go_ret
    exact ⟨_, rfl, by rw [HT.out]; exact OwnS.nil _ _, Below.refl _ _⟩
  | true =>
    have HY := hideT ((right_yes l).1 hr)
    rw [hr] at HR
    by_cases h0 : i < 1
    · have HT := hideT (proofR_no l i (fun h => by omega))
      go_enter Tryd.func45, Tryd.ntmps45
      go_wp2_with fail
      refine HR.out.mono ?_
      rintro e w1 ⟨rfl, hw⟩
      subst w1
      go_wp2_with fail
      go_ret
      exact ⟨_, rfl, by rw [HT.out]; exact OwnS.nil _ _, Below.refl _ _⟩
    · by_cases h1 : (n : Int) < i
      · have HT := hideT (proofR_no l i (fun h => by omega))
        go_enter Tryd.func45, Tryd.ntmps45
        go_wp2_with fail
        refine HR.out.mono ?_
        rintro e w1 ⟨rfl, hw⟩
        subst w1
        go_wp2_with fail
        go_ret
        exact ⟨_, rfl, by rw [HT.out]; exact OwnS.nil _ _, Below.refl _ _⟩
      · obtain ⟨k, rfl⟩ : ∃ k : Nat, i = k := ⟨i.toNat, by omega⟩
        have HT := hideT (proofR_yes l k hr (by omega) (by omega))
        go_enter Tryd.func45, Tryd.ntmps45
        go_wp2_with fail
        refine HR.out.mono ?_
        rintro e w1 ⟨rfl, hw⟩
        subst w1
        go_wp2_with fail
        refine (proof_impl n n k true l a cap B _ (Nat.le_refl _) hln (by omega) (by omega) hcap (by have := HY.out.1; omega) HY.out.2 HS.out hB HV.out).mono ?_
        rintro e w2 ⟨v, rfl, ho2, hb2⟩
        have HO2 := hideT ho2
        clear ho2
        go_wp2_with fail
        go_ret
        exact ⟨_, rfl, by rw [HT.out]; exact HO2.out, hb2⟩

set_option maxHeartbeats 1000000 in
theorem proofOf_spec (l : List ByteArray) (n : Nat) (i : Int) (a : Option Addr) (cap B : Nat) (w : World) (hln : l.length = n) (hcap : n ≤ cap) (hn : n ≤ 1048576) (hs : Strs w B a l) (hB : B ≤ w.heap.size) :
    Calls Tryd.prog 46 #[.slice a n cap, .int .i64 i] w fun e w' => ∃ v, e = .returned v ∧ OwnS w' w.heap.size v (proofR l i) ∧ Below w.heap.size w w' := by
  have HR := hideT (right_spec a cap l w B hs (by omega))
  rw [hln] at HR
  have HS := hideT hs
  clear hs
  by_cases h400 : 400 < n
  · have HT := hideT (proofR_no l i (fun h => by have := ((right_yes l).1 h.1).1; omega))
    go_enter Tryd.func46, Tryd.ntmps46
    go_wp2_with fail
    go_ret
    exact ⟨_, rfl, by rw [HT.out]; exact own_empty _ _ _ (Nat.le_refl _), (Below.refl _ _).alloc (Nat.le_refl _) _⟩
  · cases hr : right l with
    | false =>
      have HT := hideT (proofR_no l i (fun h => by rw [hr] at h; cases h.1))
      rw [hr] at HR
      go_enter Tryd.func46, Tryd.ntmps46
      go_wp2_with fail
      refine HR.out.mono ?_
      rintro e w1 ⟨rfl, hw⟩
      subst w1
      go_wp2_with fail
      go_ret
      exact ⟨_, rfl, by rw [HT.out]; exact own_empty _ _ _ (Nat.le_refl _), (Below.refl _ _).alloc (Nat.le_refl _) _⟩
    | true =>
      have HY := hideT ((right_yes l).1 hr)
      rw [hr] at HR
      by_cases h0 : i < 1
      · have HT := hideT (proofR_no l i (fun h => by omega))
        go_enter Tryd.func46, Tryd.ntmps46
        go_wp2_with fail
        refine HR.out.mono ?_
        rintro e w1 ⟨rfl, hw⟩
        subst w1
        go_wp2_with fail
        go_ret
        exact ⟨_, rfl, by rw [HT.out]; exact own_empty _ _ _ (Nat.le_refl _), (Below.refl _ _).alloc (Nat.le_refl _) _⟩
      · by_cases h1 : (n : Int) < i
        · have HT := hideT (proofR_no l i (fun h => by omega))
          go_enter Tryd.func46, Tryd.ntmps46
          go_wp2_with fail
          refine HR.out.mono ?_
          rintro e w1 ⟨rfl, hw⟩
          subst w1
          go_wp2_with fail
          go_ret
          exact ⟨_, rfl, by rw [HT.out]; exact own_empty _ _ _ (Nat.le_refl _), (Below.refl _ _).alloc (Nat.le_refl _) _⟩
        · obtain ⟨k, rfl⟩ : ∃ k : Nat, i = k := ⟨i.toNat, by omega⟩
          have HT := hideT (proofR_yes l k hr (by omega) (by omega))
          go_enter Tryd.func46, Tryd.ntmps46
          go_wp2_with fail
          refine HR.out.mono ?_
          rintro e w1 ⟨rfl, hw⟩
          subst w1
          go_wp2_with fail
          refine (proof_spec n n k true l a cap B _ (Nat.le_refl _) hln (by omega) (by omega) hcap (by have := HY.out.1; omega) HY.out.2 HS.out hB).mono ?_
          rintro e w2 ⟨v, rfl, ho2, hb2⟩
          have HO2 := hideT ho2
          clear ho2
          go_wp2_with fail
          go_ret
          exact ⟨_, rfl, by rw [HT.out]; exact HO2.out, hb2⟩
end Go.Proofs.YteiicafjjcnioaaDoor.Tr
