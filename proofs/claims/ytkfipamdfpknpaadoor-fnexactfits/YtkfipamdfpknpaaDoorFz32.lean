/- Texts put together: StrLaws, StrSzL. -/
import Derived.Test.YtkfipamdfpknpaaDoorFz31
/- The laws' own helpers on rows of texts: the budget of their sizes. -/
namespace Go.Proofs.YtkfipamdfpknpaaDoor.St
open Go.RowKit
end Go.Proofs.YtkfipamdfpknpaaDoor.St


/- The budget of sizes of a row of texts, where something is spent of it already. -/
namespace Go.Proofs.YtkfipamdfpknpaaDoor.St
open Go.RowKit
set_option maxRecDepth 100000 in
set_option maxHeartbeats 1000000 in
/-- what is left of a budget: below 0, or each text and their number are within it -/
theorem szL_any (L : Nat) (hL : L ≤ 1048576) (a : Option Addr) (cap : Nat) (l : List ByteArray) (w : World) (h : Strs w w.heap.size a l) (hn : l.length ≤ maxLen) (hs : ∀ s ∈ l, s.size ≤ maxLen) :
    Calls Tryd.prog 10 #[.slice a l.length cap, .int .i64 (L : Nat)] w fun e w' => ∃ r : Int, e = .returned (.int .i64 r) ∧ (0 ≤ r → l.length ≤ 1048576 ∧ ∀ s ∈ l, s.size ≤ 1048576) ∧ w' = w := by
  have HS := hideT h
  have HZ := hideT hs
  clear h hs
  unfold maxLen at hn
  obtain ⟨n, hln⟩ : ∃ n, n = l.length := ⟨_, rfl⟩
  have HLN := hideT hln
  rw [← hln] at hn ⊢
  clear hln
  by_cases hbig : L < n
  · have g1 : (L : Int) - n < 0 := by omega
    go_enter Tryd.func10, Tryd.ntmps10
    go_wp2_with fail
    go_ret
    exact ⟨-1, rfl, fun h => by omega, rfl⟩
  · have g1 : ¬ (L : Int) - n < 0 := by omega
    go_enter Tryd.func10, Tryd.ntmps10
    go_wp2_with fail
    go_loopw [5, 1] (fun i v wr => ∃ (k : Nat) (r : Int), i = .int .i64 k ∧ v = .int .i64 r ∧ k ≤ n ∧ 0 ≤ r ∧ r ≤ 1048576 ∧ (∀ j (hj : j < l.length), j < k → l[j].size ≤ 1048576) ∧ wr = w) (fun i _ _ => n - (intOf i).toNat)
    case atStart => exact ⟨0, _, rfl, rfl, by omega, by omega, by omega, fun j hj h0 => by omega, rfl⟩
    case round =>
      obtain ⟨k, r, rfl, rfl, hk, r0, r1, hall, hw⟩ := hrel
      subst hw
      have HA := hideT hall
      clear hall
      by_cases hlt : k < n
      · have hkl : k < l.length := by rw [← HLN.out]; exact hlt
        obtain ⟨b, off, rfl, hb, hc⟩ := HS.out.some (by omega)
        have ci := hc k hkl
        have hsz := HZ.out l[k] (List.getElem_mem hkl)
        obtain ⟨s, hs⟩ : ∃ s, s = l[k] := ⟨_, rfl⟩
        have HSE := hideT hs
        rw [← hs] at ci hsz
        unfold maxLen at hsz
        clear hc hs
        by_cases hneg : r - s.size < 0
        · go_wp2_with fail
          go_ret
          exact ⟨-1, rfl, fun h => by omega, rfl⟩
        · go_wp2_with fail
          go_roundw
          case rel =>
            refine ⟨k + 1, _, by go_num, rfl, by omega, by omega, by omega, fun j hj h0 => ?_, trivial⟩
            by_cases e : j = k
            · subst e
              rw [← HSE.out]
              omega
            · exact HA.out j hj (by omega)
          case measure => simp [intOf]; omega
      · go_wp2_with fail
        go_ret
        refine ⟨r, rfl, fun _ => ⟨by have := HLN.out; omega, fun s hs => ?_⟩, rfl⟩
        obtain ⟨j, hj, rfl⟩ := List.getElem_of_mem hs
        exact HA.out j hj (by have := HLN.out; omega)
end Go.Proofs.YtkfipamdfpknpaaDoor.St

