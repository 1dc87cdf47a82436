/- What the program's Unbwt answers. -/
import Derived.Test.YtdnmbagdegbnfaaPlaceI
import Derived.Test.YtdnmbagdegbnfaaBwtImpl
namespace Go.Proofs.Ytdnmbagdegbnfaa.So
open Go.RowKit Go.Sort Go.Proofs
open Go.Proofs.Ytdnmbagdegbnfaa.Sh (bt bt_get bt_lt strF IsB made_row)

set_option maxRecDepth 100000 in
set_option maxHeartbeats 1000000 in
theorem turnBack_impl (t : ByteArray) (a : Nat) (w : World) (hn : t.size ≤ 1048576) (ha : a < t.size ∨ t.size = 0) :
    Calls Try.prog 110 #[.string t, .int .i64 a] w fun e w' => e = .returned (.string (backT t a)) ∧ Below w.heap.size w w' := by
  obtain ⟨i0, hi0, hz0, hz1, hz2⟩ := info_parts Nu.Try.infoJ5
  have HPL := hideO (places_impl t w hn)
  go_enter Try.func110, Try.ntmps110
  go_wp2_with fail
  refine HPL.out.mono ?_
  rintro e w1 ⟨g, rfl, hg1, hg2, hc, hb1⟩
  have HC := hideO hc
  have HB1 := hideO hb1
  have z1 := hb1.size
  clear hc hb1
  go_wp2_with (at_make; refine wpList_make_full _ rfl (.tmp 12) (.tmp 12) 22 rfl w1.heap.size 5 i0 (.int .u8 0) 1 Try.underlying22 hi0 hz0 hz1 .i64 .i64 _ _ t.size rfl rfl (by simp) (by simp) (by rw [hz2]; omega) (by unfold maxLen; omega) (Nat.le_refl _) ?_; intro w2 hown2 hgrow2; have HT2 := hideO (made_row hown2); have HB2 := hideO ((Below.refl w1.heap.size w1).grown hgrow2 (Nat.le_refl _) (by simp)); clear hown2 hgrow2)
  go_loopw [17, 7] (fun i m wr => ∃ k : Nat, i = .int .i64 k ∧ k ≤ t.size ∧ m = .int .i64 (itR t a k : Nat) ∧ IsB wr w1.heap.size 5 .u8 t.size (fun j => ((fillK t a k j : Nat) : Int)) ∧ Below w1.heap.size w1 wr) (fun i _ _ => t.size - (intOf i).toNat)
  case atStart => exact ⟨0, rfl, Nat.zero_le _, rfl, HT2.out.congr (fun j _ => by simp [fillK]), HB2.out⟩
  case round =>
    obtain ⟨k, rfl, hk, rfl, hrow, hbel⟩ := hrel
    have T1 := hideO hrow
    have GB := hideO hbel
    have hsz := hrow.lt
    clear hbel
    by_cases hlt : k < t.size
    · have hat : a < t.size := by omega
      have hr1 := itR_lt t a k hat
      have hr2 := itR_lt t a (k + 1) hat
      have e0 : itR t a (k + 1) = plF t (itR t a k) := rfl
      have c1 : wr.cell? ⟨g, itR t a k, none⟩ = some (.int .i64 (itR t a (k + 1) : Nat)) := by
        rw [GB.out.cell (p := ⟨g, itR t a k, none⟩) hg2, e0]
        exact HC.out _ hr1
      have HN := hideO (fillK_next t a k)
      obtain ⟨p, hp⟩ : ∃ p, p = itR t a k := ⟨_, rfl⟩
      obtain ⟨q, hq⟩ : ∃ q, q = itR t a (k + 1) := ⟨_, rfl⟩
      have HQ := hideO hq
      rw [← hp, ← hq] at c1
      rw [← hq] at hr2 HN
      rw [← hp] at hr1 ⊢
      have hpz : (p : Int) < (t.size : Int) := by omega
      have hqz : (q : Int) < (t.size : Int) := by omega
      have hkz : (k : Int) < (t.size : Int) := by omega
      obtain ⟨y, hy, hyt⟩ : ∃ y : UInt8, t[q] = y ∧ y.toNat = bt t q := ⟨_, rfl, bt_get _ _ hr2⟩
      rw [← hyt] at HN
      have c2 := hrow.cell (j := k) hlt
      have f2 := hrow.frozen k
      have TS := hideO ((hrow.set k (y.toNat : Nat)).congr (fun j _ => HN.out j))
      have BS := hideO (GB.out.setCell (p := ⟨w1.heap.size, k, none⟩) (Nat.le_refl _) (.int .u8 (y.toNat : Nat)))
      clear hrow hp hq hyt e0 ha
      go_wp2_with fail
      go_roundw
      case rel => exact ⟨k + 1, by go_num, by omega, by rw [← HQ.out], TS.out, BS.out⟩
      case measure => simp [intOf]; omega
    · obtain rfl : k = t.size := by omega
      have hcv := hrow.str (P := Try.prog) (src := 22) (dst := 9) t.size t.size (Nat.le_refl _) (fun j _ => fillK_lt _ _ _ j) Try.underlying22 Try.underlying5 Try.underlying9
      rw [fillK_all] at hcv
      have BZ := hideO (HB1.out.trans (GB.out.mono z1))
      generalize itR t a t.size = m
      clear hrow ha
      go_wp2_with fail
      go_ret
      exact ⟨rfl, BZ.out⟩

set_option maxHeartbeats 1000000 in
theorem isPlace_impl (t : ByteArray) (a : Int) (w : World) :
    Calls Try.prog 109 #[.string t, .int .i64 a] w fun e w' => e = .returned (.bool (!decide (a < 0 ∨ ((t.size : Int) ≤ a ∧ 0 < a)))) ∧ w' = w := by
  by_cases h0 : a = 0
  · subst h0
    rw [decide_eq_false (by omega)]
    go_enter Try.func109, Try.ntmps109
    go_wp2_with fail
    go_ret
    exact ⟨rfl, rfl⟩
  · have hz : (a == 0) = false := beq_eq_false_iff_ne.2 h0
    by_cases h1 : 0 < a
    · have hd : decide (0 < a) = true := decide_eq_true h1
      by_cases h2 : a < (t.size : Int)
      · have hd2 : decide (a < (t.size : Int)) = true := decide_eq_true h2
        rw [decide_eq_false (by omega)]
        clear h0
        go_enter Try.func109, Try.ntmps109
        go_wp2_with fail
        go_ret
        exact ⟨rfl, rfl⟩
      · have hd2 : decide (a < (t.size : Int)) = false := decide_eq_false h2
        rw [decide_eq_true (by omega)]
        clear h0
        go_enter Try.func109, Try.ntmps109
        go_wp2_with fail
        go_ret
        exact ⟨rfl, rfl⟩
    · have hd : decide (0 < a) = false := decide_eq_false h1
      rw [decide_eq_true (by omega)]
      clear h0
      go_enter Try.func109, Try.ntmps109
      go_wp2_with fail
      go_ret
      exact ⟨rfl, rfl⟩
end Go.Proofs.Ytdnmbagdegbnfaa.So
