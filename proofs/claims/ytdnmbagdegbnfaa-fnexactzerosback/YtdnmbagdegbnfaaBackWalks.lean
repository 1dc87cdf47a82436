/- What the program's ZerosBack answers. -/
import Derived.Test.YtdnmbagdegbnfaaZeroSpec
namespace Go.Proofs.Ytdnmbagdegbnfaa.Ze
open Go.RowKit
open Go.Proofs.Ytdnmbagdegbnfaa.Bi (upTo_impl)
open Go.Proofs.Ytdnmbagdegbnfaa.In (Ints OwnI IsO one_newI one_cellI app_one)
open Go.Proofs.Ytdnmbagdegbnfaa.In.Try (infoI2)

theorem OwnI.zeros {w : World} {base : Nat} {v : Value} {l : List Int} {m : Nat} (h : w.ownsRow base 2 1 v (l.length + m) (l.map (Value.int .i64) ++ List.replicate m (.int .i64 0))) : OwnI w base v (l ++ List.replicate m 0) := by
  unfold OwnI
  rw [List.length_append, List.map_append, List.length_replicate, List.map_replicate]
  exact h

set_option maxRecDepth 100000 in
set_option maxHeartbeats 1000000 in
theorem zerosBack_impl (l : List Int) (a : Option Addr) (cap B : Nat) (w : World) (hi : Ints w B a l) (hB : B ≤ w.heap.size) (hn : l.length ≤ 1048576) :
    Calls Try.prog 59 #[.slice a l.length cap] w fun e w' => ∃ v, e = .returned v ∧ OwnI w' w.heap.size v (backR l) ∧ Below w.heap.size w w' := by
  obtain ⟨i0, hi0, hz0, hz1, hz2⟩ := info_parts infoI2
  by_cases hlong : 400 < l.length
  · rw [backR_no (numsR_long hlong)]
    clear hi
    generalize l.length = n at hlong hn ⊢
    go_enter Try.func59, Try.ntmps59
    go_wp2_with fail
    go_ret
    exact ⟨_, rfl, OwnI.nil _ _, Below.refl _ _⟩
  · have HU := hideZ (upTo_impl l 256 a cap B w hi hn)
    cases hu : upTo l 256 with
    | false =>
      rw [backR_no ((numsR_of (by omega)).trans hu)]
      rw [hu] at HU
      clear hi hu
      generalize l.length = n at HU hlong hn ⊢
      have hd : decide (400 < (n : Int)) = false := decide_eq_false (by omega)
      go_enter Try.func59, Try.ntmps59
      go_wp2_with fail
      refine HU.out.mono ?_
      rintro e w' ⟨rfl, hw⟩
      subst w'
      go_wp2_with fail
      go_ret
      exact ⟨_, rfl, OwnI.nil _ _, Below.refl _ _⟩
    | true =>
      have HNR := hideZ ((numsR_of (by omega)).trans hu)
      have HUP := hideZ (upTo_yes hu)
      rw [hu] at HU
      have HS := hideZ (hi.mono hB)
      clear hi hu
      obtain ⟨n, hln⟩ : ∃ n, n = l.length := ⟨_, rfl⟩
      have HLN := hideZ hln
      rw [← hln] at HU hlong ⊢
      clear hln hn
      have hd : decide (400 < (n : Int)) = false := decide_eq_false (by omega)
      go_enter Try.func59, Try.ntmps59
      go_wp2_with fail
      refine HU.out.mono ?_
      rintro e w' ⟨rfl, hw⟩
      subst w'
      go_wp2_with fail
      go_loopw [17, 3, 4] (fun i u m wr => ∃ k q : Nat, i = .int .i64 k ∧ m = .int .i64 q ∧ k ≤ n ∧ q = (bst (l.take k)).2 ∧ (bst (l.take k)).1.length ≤ 400 ∧ OwnI wr w.heap.size u (bst (l.take k)).1 ∧ Below w.heap.size w wr) (fun i _ _ _ => n - (intOf i).toNat)
      case atStart => exact ⟨0, 1, rfl, rfl, Nat.zero_le _, rfl, by simp [bst], OwnI.nil _ _, Below.refl _ _⟩
      case round =>
        obtain ⟨k, q, rfl, rfl, hk, hq, h400, hown, hbel⟩ := hrel
        have hwo := (bst_worth l k (by have := HLN.out; omega)).2
        rw [← hq] at hwo
        have hq4 : q ≤ 401 := by omega
        have GB := hideZ hbel
        have HQ := hideZ hq
        have hsz := hbel.size
        obtain ⟨a', cap', rfl, _, _⟩ := hown.ints
        obtain ⟨lk, hlk⟩ : ∃ lk, lk = (bst (l.take k)).1 := ⟨_, rfl⟩
        rw [← hlk] at hown h400 ⊢
        have G1 := hideZ hown
        have HLK := hideZ hlk
        clear hq hown hbel hlk hwo
        by_cases hlt : k < n
        · have hkl : k < l.length := by rw [← HLN.out]; exact hlt
          obtain ⟨b, off, rfl, hb, hc⟩ := (HS.out.below GB.out).some (by omega)
          have ci := hc k hkl
          have hx256 := HUP.out _ (List.getElem_mem hkl)
          obtain ⟨x, hx⟩ : ∃ x, x = l[k] := ⟨_, rfl⟩
          have HX := hideZ hx
          rw [← hx] at ci hx256
          clear hc hx
          by_cases h0 : 1 < x
          · have HZ1 : Hid (bst (l.take (k + 1)) = (lk ++ [x - 1], 1)) := by
              unfold Hid
              rw [bst_one hkl (by rw [← HX.out]; exact h0), HX.out, HLK.out]
            go_wp2_with (at_builtin; refine wpList_append_own _ rfl (.tmp 23) (.tmp 26) 23 rfl w.heap.size 2 i0 (.int .i64 0) 1 8 Try.underlying23 hi0 hz0 hz1 hz2 rfl (by decide) _ _ _ rfl (OwnI.alloc G1.out _) ⟨wr.heap.size, 0, none⟩ 1 1 [.int .i64 (x - 1)] rfl rfl (one_newI _ _ _) (one_cellI _) (by unfold maxLen; omega) (by omega) (by simp; omega) ?_)
            intro v' w6 hown' hgrow _
            have hown6 := OwnI.snoc hown'
            have b6 := hideZ (app_one GB.out (by omega) (Nat.le_refl _) G1.out hgrow)
            obtain ⟨l6, hl6⟩ : ∃ l6, l6 = lk ++ [x - 1] := ⟨_, rfl⟩
            rw [← hl6] at hown6 HZ1
            have N6 := hideZ hown6
            obtain ⟨a6, cap6, rfl, _, _⟩ := hown6.ints
            clear hown' hgrow hown6 hl6
            by_cases h4 : 400 < l6.length
            · have HE : Hid (backR l = []) := backR_long (k := k + 1) (by have := HLN.out; omega) (by rw [HZ1.out]; exact h4)
              have h4' : (400 : Int) < (l6.length : Int) := by omega
              go_wp2_with fail
              go_ret
              exact ⟨_, rfl, by rw [HE.out]; exact OwnI.nil _ _, b6.out⟩
            · have h4' : ¬ (400 : Int) < (l6.length : Int) := by omega
              go_wp2_with fail
              go_roundw
              case rel => exact ⟨k + 1, 1, by go_num, rfl, by omega, by rw [HZ1.out], by rw [HZ1.out]; simp only; omega, by rw [HZ1.out]; exact N6.out, b6.out⟩
              case measure => simp [intOf]; omega
          · have HZ1 : Hid (bst (l.take (k + 1)) = (lk ++ List.replicate ((x.toNat + 1) * q) 0, q * 2)) := by
              unfold Hid
              rw [bst_zeros hkl (by rw [← HX.out]; exact h0), HQ.out, HX.out, HLK.out]
            obtain ⟨xn, rfl⟩ : ∃ xn : Nat, x = xn := ⟨x.toNat, by omega⟩
            obtain ⟨mm, hmm⟩ : ∃ mm, mm = (xn + 1) * q := ⟨_, rfl⟩
            have hm8 : mm ≤ 802 := by
              have : xn = 0 ∨ xn = 1 := by omega
              rcases this with rfl | rfl <;> omega
            have hmul : ((xn : Int) + 1) * (q : Int) = (mm : Int) := by rw [hmm]; simp
            rw [Int.toNat_natCast, ← hmm] at HZ1
            clear hmm
            go_wp2_with (at_builtin; refine wpList_append_zeros _ rfl (.tmp 28) (.tmp 32) 23 2 rfl w.heap.size 2 i0 Try.underlying23 Try.underlying2 hi0 hz0 hz1 hz2 _ _ _ rfl G1.out mm rfl (by omega) (by omega) ?_)
            intro v' w6 hown' hgrow
            have hown6 := OwnI.zeros hown'
            have b6 := hideZ (app_row GB.out (by omega) (Nat.le_refl _) G1.out hgrow)
            obtain ⟨l6, hl6⟩ : ∃ l6, l6 = lk ++ List.replicate mm 0 := ⟨_, rfl⟩
            rw [← hl6] at hown6 HZ1
            have N6 := hideZ hown6
            obtain ⟨a6, cap6, rfl, _, _⟩ := hown6.ints
            clear hown' hgrow hown6 hl6
            by_cases h4 : 400 < l6.length
            · have HE : Hid (backR l = []) := backR_long (k := k + 1) (by have := HLN.out; omega) (by rw [HZ1.out]; exact h4)
              have h4' : (400 : Int) < (l6.length : Int) := by omega
              go_wp2_with fail
              go_ret
              exact ⟨_, rfl, by rw [HE.out]; exact OwnI.nil _ _, b6.out⟩
            · have h4' : ¬ (400 : Int) < (l6.length : Int) := by omega
              go_wp2_with fail
              go_roundw
              case rel => exact ⟨k + 1, q * 2, by go_num, by go_num, by omega, by rw [HZ1.out], by rw [HZ1.out]; simp only; omega, by rw [HZ1.out]; exact N6.out, b6.out⟩
              case measure => simp [intOf]; omega
        · have hkn : k = l.length := by have := HLN.out; omega
          have HT : Hid (l.take k = l) := by
            unfold Hid
            rw [hkn, List.take_length]
          have HE : Hid (backR l = lk) := by
            unfold Hid
            rw [HLK.out, HT.out, backR_yes HNR.out (by rw [← HT.out, ← HLK.out]; exact h400)]
          clear hkn
          go_wp2_with fail
          go_ret
          exact ⟨_, rfl, by rw [HE.out]; exact G1.out, GB.out⟩
end Go.Proofs.Ytdnmbagdegbnfaa.Ze
