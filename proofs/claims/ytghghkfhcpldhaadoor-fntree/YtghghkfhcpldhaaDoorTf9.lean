/- Texts put together: StrArg, TreeTop, PathTop. -/
import Derived.Test.YtghghkfhcpldhaaDoorStrBase
import Derived.Test.YtghghkfhcpldhaaDoorTf7
import Derived.Test.YtghghkfhcpldhaaDoorTf8
import Derived.Test.YtghghkfhcpldhaaDoorStrO
/- A slice of texts that came in. -/
namespace Go.Proofs.YtghghkfhcpldhaaDoor.St
open Go.RowKit

def IsStrs (w : World) (a : Option Addr) (len cap : Nat) (ss : List ByteArray) : Prop :=
  (a = none ∧ len = 0 ∧ cap = 0 ∧ ss = []) ∨
  ∃ x, a = some x ∧ len ≤ cap ∧ cap ≤ maxLen ∧ ss.length = cap ∧ (∀ i, i < ss.length → w.cell? (x.add i) = some (.string (ss.getD i ByteArray.empty))) ∧ ∀ s ∈ ss, s.size ≤ maxLen

theorem strs_of {w : World} {a : Option Addr} {len cap : Nat} {ss : List ByteArray} (h : IsStrs w a len cap ss) :
    ∃ l : List ByteArray, l.length = len ∧ Strs w w.heap.size a l ∧ len ≤ maxLen ∧ len ≤ cap ∧ ∀ s ∈ l, s.size ≤ maxLen := by
  rcases h with ⟨_, rfl, rfl, _⟩ | ⟨x, rfl, hlc, hm, hz, hc, hw⟩
  · exact ⟨[], rfl, .inl rfl, by decide, Nat.le_refl _, fun s hs => by cases hs⟩
  · refine ⟨ss.take len, by rw [List.length_take]; omega, ?_, by omega, hlc, fun s hs => hw s (List.mem_of_mem_take hs)⟩
    rcases Nat.eq_zero_or_pos len with h0 | h0
    · subst h0
      exact .inl rfl
    · obtain ⟨b, off, spot⟩ := x
      have hc0 := hc 0 (by omega)
      have hspot : spot = none := by simpa [Addr.add] using World.cell?_spot hc0
      subst hspot
      have e : ∀ i, (⟨b, off, none⟩ : Addr).add i = ⟨b, off + i, none⟩ := fun i => by unfold Addr.add; split <;> simp_all
      have hlt := World.block_lt_of_cell? w _ hc0
      rw [e 0] at hlt
      refine .inr ⟨b, off, rfl, hlt, fun j hj => ?_⟩
      rw [List.length_take] at hj
      have hj' : j < ss.length := by omega
      rw [← e j, hc j hj', List.getElem_take, List.getD_eq_getElem?_getD, List.getElem?_eq_getElem hj']
      rfl
end Go.Proofs.YtghghkfhcpldhaaDoor.St

/- What both TreeHash answer, and the law on it. -/
namespace Go.Proofs.YtghghkfhcpldhaaDoor.Tr
open Go.RowKit
open Go.Proofs.YtghghkfhcpldhaaDoor.St
open Go.Proofs.YtghghkfhcpldhaaDoor.Sh (Vars)

theorem below2 {w w1 w2 : World} (h1 : Below w.heap.size w w1) (h2 : Below w1.heap.size w1 w2) : Below w.heap.size w w2 := h1.trans (h2.mono h1.size)
theorem treeR_yes (l : List ByteArray) (h : right l = true) : treeR l = tree l := if_pos h
theorem treeR_no (l : List ByteArray) (h : right l = false) : treeR l = ⟨#[]⟩ := if_neg (by rw [h]; decide)

theorem treeHash_impl (l : List ByteArray) (n : Nat) (a : Option Addr) (cap B : Nat) (w : World) (hln : l.length = n) (hcap : n ≤ cap) (hn : n ≤ 1048576) (hs : Strs w B a l) (hB : B ≤ w.heap.size) (hV : Vars w) :
    Calls Tryd.prog 14 #[.slice a n cap] w fun e w' => e = .returned (.string (treeR l)) ∧ Below w.heap.size w w' := by
  have HR := hideT (right_impl a cap l w B hs (by omega))
  rw [hln] at HR
  have HS := hideT hs
  have HV := hideT hV
  clear hs hV
  cases hr : right l with
  | false =>
    have HT := hideT (treeR_no l hr)
    rw [hr] at HR
    go_enter Tryd.func14, Tryd.ntmps14
    go_wp2_with fail
    refine HR.out.mono ?_
    rintro e w1 ⟨rfl, hw⟩
    subst w1
    go_wp2_with fail
    go_ret
    exact ⟨Nu.ret_strJ HT.out.symm, Below.refl _ _⟩
  | true =>
    have HT := hideT (treeR_yes l hr)
    have HY := hideT ((right_yes l).1 hr)
    rw [hr] at HR
    go_enter Tryd.func14, Tryd.ntmps14
    go_wp2_with fail
    refine HR.out.mono ?_
    rintro e w1 ⟨rfl, hw⟩
    subst w1
    go_wp2_with fail
    refine (tree_impl n n l a cap B _ (Nat.le_refl _) hln hcap (by have := HY.out.1; omega) HY.out.2 HS.out hB HV.out).mono ?_
    rintro e w2 ⟨rfl, hb2⟩
    go_wp2_with fail
    go_ret
    exact ⟨Nu.ret_strJ HT.out.symm, hb2⟩

theorem treeHash_spec (l : List ByteArray) (n : Nat) (a : Option Addr) (cap B : Nat) (w : World) (hln : l.length = n) (hcap : n ≤ cap) (hn : n ≤ 1048576) (hs : Strs w B a l) (hB : B ≤ w.heap.size) :
    Calls Tryd.prog 9 #[.slice a n cap] w fun e w' => e = .returned (.string (treeR l)) ∧ Below w.heap.size w w' := by
  have HR := hideT (right_spec a cap l w B hs (by omega))
  rw [hln] at HR
  have HS := hideT hs
  clear hs
  by_cases h400 : 400 < n
  · have HT := hideT (treeR_no l (right_long l (by omega)))
    go_enter Tryd.func9, Tryd.ntmps9
    go_wp2_with fail
    go_ret
    exact ⟨Nu.ret_strJ HT.out.symm, Below.refl _ _⟩
  · cases hr : right l with
    | false =>
      have HT := hideT (treeR_no l hr)
      rw [hr] at HR
      go_enter Tryd.func9, Tryd.ntmps9
      go_wp2_with fail
      refine HR.out.mono ?_
      rintro e w1 ⟨rfl, hw⟩
      subst w1
      go_wp2_with fail
      go_ret
      exact ⟨Nu.ret_strJ HT.out.symm, Below.refl _ _⟩
    | true =>
      have HT := hideT (treeR_yes l hr)
      have HY := hideT ((right_yes l).1 hr)
      rw [hr] at HR
      go_enter Tryd.func9, Tryd.ntmps9
      go_wp2_with fail
      refine HR.out.mono ?_
      rintro e w1 ⟨rfl, hw⟩
      subst w1
      go_wp2_with fail
      refine (tree_spec n n l a cap B _ (Nat.le_refl _) hln hcap (by have := HY.out.1; omega) HY.out.2 HS.out hB).mono ?_
      rintro e w2 ⟨rfl, hb2⟩
      go_wp2_with fail
      go_ret
      exact ⟨Nu.ret_strJ HT.out.symm, hb2⟩
end Go.Proofs.YtghghkfhcpldhaaDoor.Tr

/- What both PathOf answer, and the law on it. -/
namespace Go.Proofs.YtghghkfhcpldhaaDoor.Tr
open Go.RowKit
open Go.Proofs.YtghghkfhcpldhaaDoor.St
open Go.Proofs.YtghghkfhcpldhaaDoor.Sh (Vars own_empty)

theorem pathR_yes (l : List ByteArray) (i : Nat) (h : right l = true) (hi : i < l.length) : pathR l i = path l i := by
  unfold pathR
  rw [if_pos ⟨h, by omega, by omega⟩]
  rfl
theorem pathR_no (l : List ByteArray) (i : Int) (h : ¬ (right l = true ∧ 0 ≤ i ∧ i < l.length)) : pathR l i = [] := if_neg h
theorem pathR_length (l : List ByteArray) (i : Int) : (pathR l i).length ≤ l.length := by
  unfold pathR
  split
  · exact path_length _ l _ (Nat.le_refl _)
  · simp

set_option maxHeartbeats 1000000 in
theorem pathOf_impl (l : List ByteArray) (n : Nat) (i : Int) (a : Option Addr) (cap B : Nat) (w : World) (hln : l.length = n) (hcap : n ≤ cap) (hn : n ≤ 1048576) (hs : Strs w B a l) (hB : B ≤ w.heap.size) (hV : Vars w) :
    Calls Tryd.prog 15 #[.slice a n cap, .int .i64 i] w fun e w' => ∃ v, e = .returned v ∧ OwnS w' w.heap.size v (pathR l i) ∧ Below w.heap.size w w' := by
  have HR := hideT (right_impl a cap l w B hs (by omega))
  rw [hln] at HR
  have HS := hideT hs
  have HV := hideT hV
  clear hs hV
  cases hr : right l with
  | false =>
    have HT := hideT (pathR_no l i (fun h => by rw [hr] at h; cases h.1))
    rw [hr] at HR
    go_enter Tryd.func15, Tryd.ntmps15
    go_wp2_with fail
    refine HR.out.mono ?_
    rintro e w1 ⟨rfl, hw⟩
    subst w1
    go_wp2_with fail
    go_ret
    exact ⟨_, rfl, by rw [HT.out]; exact OwnS.nil _ _, Below.refl _ _⟩
  | true =>
    have HY := hideT ((right_yes l).1 hr)
    rw [hr] at HR
    by_cases h0 : i < 0
    · have HT := hideT (pathR_no l i (fun h => by omega))
      go_enter Tryd.func15, Tryd.ntmps15
      go_wp2_with fail
      refine HR.out.mono ?_
      rintro e w1 ⟨rfl, hw⟩
      subst w1
      go_wp2_with fail
      go_ret
      exact ⟨_, rfl, by rw [HT.out]; exact OwnS.nil _ _, Below.refl _ _⟩
    · by_cases h1 : (n : Int) ≤ i
      · have HT := hideT (pathR_no l i (fun h => by omega))
        go_enter Tryd.func15, Tryd.ntmps15
        go_wp2_with fail
        refine HR.out.mono ?_
        rintro e w1 ⟨rfl, hw⟩
        subst w1
        go_wp2_with fail
        go_ret
        exact ⟨_, rfl, by rw [HT.out]; exact OwnS.nil _ _, Below.refl _ _⟩
      · obtain ⟨k, rfl⟩ : ∃ k : Nat, i = k := ⟨i.toNat, by omega⟩
        have HT := hideT (pathR_yes l k hr (by omega))
        go_enter Tryd.func15, Tryd.ntmps15
        go_wp2_with fail
        refine HR.out.mono ?_
        rintro e w1 ⟨rfl, hw⟩
        subst w1
        go_wp2_with fail
        refine (path_impl n n k l a cap B _ (Nat.le_refl _) hln (by omega) (by omega) hcap (by have := HY.out.1; omega) HY.out.2 HS.out hB HV.out).mono ?_
        rintro e w2 ⟨v, rfl, ho2, hb2⟩
        have HO2 := hideT ho2
        clear ho2
        go_wp2_with fail
        go_ret
        exact ⟨_, rfl, by rw [HT.out]; exact HO2.out, hb2⟩

set_option maxHeartbeats 1000000 in
theorem pathOf_spec (l : List ByteArray) (n : Nat) (i : Int) (a : Option Addr) (cap B : Nat) (w : World) (hln : l.length = n) (hcap : n ≤ cap) (hn : n ≤ 1048576) (hs : Strs w B a l) (hB : B ≤ w.heap.size) :
    Calls Tryd.prog 16 #[.slice a n cap, .int .i64 i] w fun e w' => ∃ v, e = .returned v ∧ OwnS w' w.heap.size v (pathR l i) ∧ Below w.heap.size w w' := by
  have HR := hideT (right_spec a cap l w B hs (by omega))
  rw [hln] at HR
  have HS := hideT hs
  clear hs
  by_cases h400 : 400 < n
  · have HT := hideT (pathR_no l i (fun h => by have := ((right_yes l).1 h.1).1; omega))
    go_enter Tryd.func16, Tryd.ntmps16
    go_wp2_with fail
    go_ret
    exact ⟨_, rfl, by rw [HT.out]; exact own_empty _ _ _ (Nat.le_refl _), (Below.refl _ _).alloc (Nat.le_refl _) _⟩
  · cases hr : right l with
    | false =>
      have HT := hideT (pathR_no l i (fun h => by rw [hr] at h; cases h.1))
      rw [hr] at HR
      go_enter Tryd.func16, Tryd.ntmps16
      go_wp2_with fail
      refine HR.out.mono ?_
      rintro e w1 ⟨rfl, hw⟩
      subst w1
      go_wp2_with fail
      go_ret
      exact ⟨_, rfl, by rw [HT.out]; exact own_empty _ _ _ (Nat.le_refl _), (Below.refl _ _).alloc (Nat.le_refl _) _⟩
    | true =>
      have HY := hideT ((right_yes l).1 hr)
      rw [hr] at HR
      by_cases h0 : i < 0
      · have HT := hideT (pathR_no l i (fun h => by omega))
        go_enter Tryd.func16, Tryd.ntmps16
        go_wp2_with fail
        refine HR.out.mono ?_
        rintro e w1 ⟨rfl, hw⟩
        subst w1
        go_wp2_with fail
        go_ret
        exact ⟨_, rfl, by rw [HT.out]; exact own_empty _ _ _ (Nat.le_refl _), (Below.refl _ _).alloc (Nat.le_refl _) _⟩
      · by_cases h1 : (n : Int) ≤ i
        · have HT := hideT (pathR_no l i (fun h => by omega))
          go_enter Tryd.func16, Tryd.ntmps16
          go_wp2_with fail
          refine HR.out.mono ?_
          rintro e w1 ⟨rfl, hw⟩
          subst w1
          go_wp2_with fail
          go_ret
          exact ⟨_, rfl, by rw [HT.out]; exact own_empty _ _ _ (Nat.le_refl _), (Below.refl _ _).alloc (Nat.le_refl _) _⟩
        · obtain ⟨k, rfl⟩ : ∃ k : Nat, i = k := ⟨i.toNat, by omega⟩
          have HT := hideT (pathR_yes l k hr (by omega))
          go_enter Tryd.func16, Tryd.ntmps16
          go_wp2_with fail
          refine HR.out.mono ?_
          rintro e w1 ⟨rfl, hw⟩
          subst w1
          go_wp2_with fail
          refine (path_spec n n k l a cap B _ (Nat.le_refl _) hln (by omega) (by omega) hcap (by have := HY.out.1; omega) HY.out.2 HS.out hB).mono ?_
          rintro e w2 ⟨v, rfl, ho2, hb2⟩
          have HO2 := hideT ho2
          clear ho2
          go_wp2_with fail
          go_ret
          exact ⟨_, rfl, by rw [HT.out]; exact HO2.out, hb2⟩
end Go.Proofs.YtghghkfhcpldhaaDoor.Tr
