/- The walk of l04Least. -/
import Derived.Test.YtmkpakhpjgocjaaHuLeastS
import Derived.Test.YtmkpakhpjgocjaaHuCounts
import Derived.Deep.QuietTactic
import Derived.BigQuiet
namespace Go.Proofs.Ytmkpakhpjgocjaa.Hf
open Go.RowKit

set_option maxRecDepth 100000 in
set_option maxHeartbeats 1000000 in
theorem leastS_any (g n cap a : Nat) (but : Int) (m : List MT) (w : World) (hn : m.length = n) (h257 : n ≤ 257) (hbut : ∀ i, i < n → ((i : Int) = but ↔ i = a)) (hc : ∀ i (h : i < m.length), w.cell? ⟨g, i * 2, none⟩ = some (.int .i64 (m[i].1.1 : Nat))) :
    Calls Try.prog 164 #[.slice (some ⟨g, 0, none⟩) n cap, .int .i64 but] w fun e w' => e = .returned (.int .i64 (oi (lb (mt m) a n))) ∧ ∃ d, w' = w.drewN d := by
  have HN := hideH hn
  have HB := hideH hbut
  have HC := hideH hc
  have HL := hideH (lb_lt (mt m) a)
  clear hn hbut hc
  go_enter Try.func164, Try.ntmps164
  go_wp2_with fail
  go_loopw [6, 5] (fun iv kv wr => ∃ (i : Nat) (k : Int), iv = .int .i64 i ∧ kv = .int .i64 k ∧ i ≤ n ∧ k = oi (lb (mt m) a i) ∧ ∃ d, wr = w.drewN d) (fun iv _ _ => n - (intOf iv).toNat)
  case atStart => exact ⟨0, -1, rfl, rfl, Nat.zero_le _, rfl, 0, rfl⟩
  case round =>
    obtain ⟨i, k, rfl, rfl, hi, hk, d, hw⟩ := hrel
    subst wr
    have HK := hideH hk
    clear hk
    by_cases hlt : i < n
    · have hi' : i < m.length := by rw [HN.out]; exact hlt
      by_cases hia : i = a
      · obtain rfl := (HB.out i hlt).2 hia
        have HF : Hid (k = oi (lb (mt m) a (i + 1))) := by
          unfold Hid
          rw [lb, if_pos hia]
          exact HK.out
        clear hia HB HK HL HC
        go_wp2_with fail
        go_big_quiet (fail)
        go_wp2_with fail
        go_roundw
        case rel => exact ⟨i + 1, k, by go_num, rfl, by omega, HF.out, _, rfl⟩
        case measure => simp [intOf]; omega
      · have hne : ¬ ((i : Int) = but) := fun e => hia ((HB.out i hlt).1 e)
        have hq : ((i : Int) != but) = true := by simp; exact hne
        clear hne
        have HIA := hideH hia
        clear hia
        cases hlb : lb (mt m) a i with
        | none =>
          have HF := hideH (lb_none hlb HIA.out)
          have hkn : k < 0 := by rw [HK.out, hlb]; decide
          have hkd : decide (k < 0) = true := decide_eq_true hkn
          clear HK hlb
          go_wp2_with fail
          go_big_quiet (fail)
          go_wp2_with fail
          go_roundw
          case rel => exact ⟨i + 1, i, by go_num, rfl, by omega, by rw [HF.out]; rfl, _, rfl⟩
          case measure => simp [intOf]; omega
        | some kk =>
          have hkl := HL.out i kk hlb
          have hk' : kk < m.length := by rw [HN.out]; omega
          have HF := hideH (lb_some hlb HIA.out)
          rw [wt_mt m i hi', wt_mt m kk hk'] at HF
          obtain rfl : k = (kk : Int) := by rw [HK.out, hlb]; rfl
          have ci := HC.out i hi'
          have ck := HC.out kk hk'
          generalize m[i].1.1 = x at ci HF
          generalize m[kk].1.1 = y at ck HF
          have hkd : decide ((kk : Int) < 0) = false := decide_eq_false (by omega)
          have hin : (i : Int) < (n : Int) := by omega
          have hkn : (kk : Int) < (n : Int) := by omega
          clear HK hlb hi' hk'
          by_cases hxy : x < y
          · have hxy' : (x : Int) < (y : Int) := by omega
            rw [if_pos hxy] at HF
            go_wp2_with fail
            go_big_quiet (fail)
            go_wp2_with fail
            go_roundw
            case rel => exact ⟨i + 1, i, by go_num, rfl, by omega, by rw [HF.out]; rfl, _, rfl⟩
            case measure => simp [intOf]; omega
          · have hxy' : decide ((x : Int) < (y : Int)) = false := by simp; omega
            rw [if_neg hxy] at HF
            go_wp2_with fail
            go_big_quiet (fail)
            go_wp2_with fail
            go_roundw
            case rel => exact ⟨i + 1, kk, by go_num, rfl, by omega, by rw [HF.out]; rfl, _, rfl⟩
            case measure => simp [intOf]; omega
    · obtain rfl : i = n := by omega
      go_wp2_with fail
      go_ret
      exact ⟨by rw [HK.out]; rfl, _, rfl⟩
end Go.Proofs.Ytmkpakhpjgocjaa.Hf
