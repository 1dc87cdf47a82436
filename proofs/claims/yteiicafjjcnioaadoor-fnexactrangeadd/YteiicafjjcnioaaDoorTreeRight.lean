/- The walks of impl.entriesRight and spec.l03Entries: whether entries are right. -/
import Derived.Test.YteiicafjjcnioaaDoorTreePlain
import Derived.Test.YteiicafjjcnioaaDoorStrLaws
namespace Go.Proofs.YteiicafjjcnioaaDoor.Tr
open Go.RowKit
open Go.Proofs.YteiicafjjcnioaaDoor.St

set_option maxRecDepth 100000 in
set_option maxHeartbeats 1000000 in
theorem right_impl (a : Option Addr) (cap : Nat) (l : List ByteArray) (w : World) (B : Nat) (h : Strs w B a l) (hn : l.length ≤ 1048576) :
    Calls Tryd.prog 74 #[.slice a l.length cap] w fun e w' => e = .returned (.bool (right l)) ∧ w' = w := by
  have HS := hideT h
  clear h
  obtain ⟨n, hln⟩ : ∃ n, n = l.length := ⟨_, rfl⟩
  have HLN := hideT hln
  by_cases hbig : 64 < n
  · have HR := hideT (right_long l (by omega))
    rw [← hln] at hn ⊢
    clear hln
    go_enter Tryd.func74, Tryd.ntmps74
    go_wp2_with fail
    go_ret
    exact ⟨ret_bool HR.out.symm, rfl⟩
  · rw [← hln] at hn ⊢
    clear hln
    go_enter Tryd.func74, Tryd.ntmps74
    go_wp2_with fail
    go_loopw [10] (fun i wr => ∃ k : Nat, i = .int .i64 k ∧ k ≤ n ∧ (∀ j (hj : j < l.length), j < k → l[j].size ≤ 100) ∧ wr = w) (fun i _ => n - (intOf i).toNat)
    case atStart => exact ⟨0, rfl, by omega, fun j hj h0 => by omega, rfl⟩
    case round =>
      obtain ⟨k, rfl, hk, hall, hw⟩ := hrel
      subst hw
      have HA := hideT hall
      clear hall
      by_cases hlt : k < n
      · have hkl : k < l.length := by rw [← HLN.out]; exact hlt
        obtain ⟨b, off, rfl, hb, hc⟩ := HS.out.some (by omega)
        have ci := hc k hkl
        have HBad := hideT (right_bad l k hkl)
        obtain ⟨s, hs⟩ : ∃ s, s = l[k] := ⟨_, rfl⟩
        have HSE := hideT hs
        rw [← hs] at ci
        clear hc hs
        by_cases h100 : 100 < s.size
        · go_wp2_with fail
          go_ret
          exact ⟨ret_bool (HBad.out (by rw [← HSE.out]; exact h100)).symm, rfl⟩
        · go_wp2_with fail
          go_roundw
          case rel =>
            refine ⟨k + 1, by go_num, by omega, fun j hj h0 => ?_, trivial⟩
            by_cases e : j = k
            · subst e
              rw [← HSE.out]
              omega
            · exact HA.out j hj (by omega)
          case measure => simp [intOf]; omega
      · have HR : Hid (right l = true) := by
          unfold Hid
          exact (right_yes l).2 ⟨by have := HLN.out; omega, fun j hj => HA.out j hj (by have := HLN.out; omega)⟩
        go_wp2_with fail
        go_ret
        exact ⟨ret_bool HR.out.symm, rfl⟩

set_option maxRecDepth 100000 in
set_option maxHeartbeats 1000000 in
theorem right_spec (a : Option Addr) (cap : Nat) (l : List ByteArray) (w : World) (B : Nat) (h : Strs w B a l) (hn : l.length ≤ 1048576) :
    Calls Tryd.prog 77 #[.slice a l.length cap] w fun e w' => e = .returned (.bool (right l)) ∧ w' = w := by
  have HS := hideT h
  clear h
  obtain ⟨n, hln⟩ : ∃ n, n = l.length := ⟨_, rfl⟩
  have HLN := hideT hln
  rw [← hln] at hn ⊢
  clear hln
  go_enter Tryd.func77, Tryd.ntmps77
  go_wp2_with fail
  go_loopw [3] (fun i wr => ∃ k : Nat, i = .int .i64 k ∧ k ≤ n ∧ (∀ j (hj : j < l.length), j < k → l[j].size ≤ 100) ∧ wr = w) (fun i _ => n - (intOf i).toNat)
  case atStart => exact ⟨0, rfl, by omega, fun j hj h0 => by omega, rfl⟩
  case round =>
    obtain ⟨k, rfl, hk, hall, hw⟩ := hrel
    subst hw
    have HA := hideT hall
    clear hall
    by_cases hlt : k < n
    · have hkl : k < l.length := by rw [← HLN.out]; exact hlt
      obtain ⟨b, off, rfl, hb, hc⟩ := HS.out.some (by omega)
      have ci := hc k hkl
      have HBad := hideT (right_bad l k hkl)
      obtain ⟨s, hs⟩ : ∃ s, s = l[k] := ⟨_, rfl⟩
      have HSE := hideT hs
      rw [← hs] at ci
      clear hc hs
      by_cases h100 : 100 < s.size
      · go_wp2_with fail
        go_ret
        exact ⟨ret_bool (HBad.out (by rw [← HSE.out]; exact h100)).symm, rfl⟩
      · go_wp2_with fail
        go_roundw
        case rel =>
          refine ⟨k + 1, by go_num, by omega, fun j hj h0 => ?_, trivial⟩
          by_cases e : j = k
          · subst e
            rw [← HSE.out]
            omega
          · exact HA.out j hj (by omega)
        case measure => simp [intOf]; omega
    · have HR : Hid (right l = decide ((n : Int) ≤ 64)) := by
        unfold Hid
        by_cases h64 : n ≤ 64
        · rw [(right_yes l).2 ⟨by have := HLN.out; omega, fun j hj => HA.out j hj (by have := HLN.out; omega)⟩]
          simp; omega
        · rw [right_long l (by have := HLN.out; omega)]
          simp; omega
      go_wp2_with fail
      go_ret
      exact ⟨ret_bool HR.out.symm, rfl⟩
end Go.Proofs.YteiicafjjcnioaaDoor.Tr
