/- What both ZerosOf answer. -/
import Derived.Test.YtdnmbagdegbnfaaUbZeroWalks
namespace Go.Proofs.Ytdnmbagdegbnfaa.Ze
open Go.RowKit
open Go.Proofs.Ytdnmbagdegbnfaa.Bi (upTo_impl ret_boolB is_yes is_no)
open Go.Proofs.Ytdnmbagdegbnfaa.In (Ints OwnI one_newI one_cellI app_one)
open Go.Proofs.Ytdnmbagdegbnfaa.In.Try (infoI2)

theorem OwnI.empty (w : World) : OwnI (w.alloc (.cells #[] 2)) w.heap.size (.slice (some ⟨w.heap.size, 0, none⟩) 0 0) [] :=
  ⟨rfl, .inr ⟨w.heap.size, 0, #[], rfl, Nat.le_refl _, heap_alloc_last w _, Nat.le_refl _, by decide, rfl, rfl⟩⟩

set_option maxRecDepth 100000 in
set_option maxHeartbeats 1000000 in
theorem zerosOf_impl (l : List Int) (a : Option Addr) (cap B : Nat) (w : World) (hi : Ints w B a l) (hB : B ≤ w.heap.size) (hn : l.length ≤ 1048576) :
    Calls Try.prog 50 #[.slice a l.length cap] w fun e w' => ∃ v, e = .returned v ∧ OwnI w' w.heap.size v (zerosR l) ∧ Below w.heap.size w w' := by
  obtain ⟨i0, hi0, hz0, hz1, hz2⟩ := info_parts infoI2
  by_cases hlong : 400 < l.length
  · rw [zerosR_no (numsR_long hlong)]
    clear hi
    generalize l.length = n at hlong hn ⊢
    go_enter Try.func50, Try.ntmps50
    go_wp2_with fail
    go_ret
    exact ⟨_, rfl, OwnI.nil _ _, Below.refl _ _⟩
  · have HU := hideZ (upTo_impl l 255 a cap B w hi hn)
    cases hu : upTo l 255 with
    | false =>
      rw [zerosR_no ((numsR_of (by omega)).trans hu)]
      rw [hu] at HU
      clear hi hu
      generalize l.length = n at HU hlong hn ⊢
      have hd : decide (400 < (n : Int)) = false := decide_eq_false (by omega)
      go_enter Try.func50, Try.ntmps50
      go_wp2_with fail
      refine HU.out.mono ?_
      rintro e w' ⟨rfl, hw⟩
      subst w'
      go_wp2_with fail
      go_ret
      exact ⟨_, rfl, OwnI.nil _ _, Below.refl _ _⟩
    | true =>
      rw [zerosR_yes ((numsR_of (by omega)).trans hu)]
      have HUP := hideZ (upTo_yes hu)
      rw [hu] at HU
      have HS := hideZ (hi.mono hB)
      clear hi hu
      obtain ⟨n, hln⟩ : ∃ n, n = l.length := ⟨_, rfl⟩
      have HLN := hideZ hln
      rw [← hln] at HU hlong ⊢
      clear hln hn
      have hd : decide (400 < (n : Int)) = false := decide_eq_false (by omega)
      go_enter Try.func50, Try.ntmps50
      go_wp2_with fail
      refine HU.out.mono ?_
      rintro e w' ⟨rfl, hw⟩
      subst w'
      go_wp2_with fail
      go_loopw [17, 3, 4] (fun i u m wr => ∃ k z : Nat, i = .int .i64 k ∧ m = .int .i64 z ∧ k ≤ n ∧ z = (zst (l.take k)).2 ∧ OwnI wr w.heap.size u (zst (l.take k)).1 ∧ Below w.heap.size w wr) (fun i _ _ _ => n - (intOf i).toNat)
      case atStart => exact ⟨0, 0, rfl, rfl, Nat.zero_le _, rfl, OwnI.nil _ _, Below.refl _ _⟩
      case round =>
        obtain ⟨k, z, rfl, rfl, hk, hz, hown, hbel⟩ := hrel
        have hzl := zst_len (l.take k)
        rw [List.length_take] at hzl
        have hzk : (zst (l.take k)).1.length + z ≤ k := by omega
        have G1 := hideZ hown
        have GB := hideZ hbel
        have HZ := hideZ hz
        have hsz := hbel.size
        clear hzl
        obtain ⟨a', cap', rfl, _, _⟩ := hown.ints
        generalize hnl : (zst (l.take k)).1.length = nl at hzk G1
        have HNL := hideZ hnl
        clear hz hown hbel hnl
        by_cases hlt : k < n
        · have hkl : k < l.length := by rw [← HLN.out]; exact hlt
          obtain ⟨b, off, rfl, hb, hc⟩ := (HS.out.below GB.out).some (by omega)
          have ci := hc k hkl
          have hx255 := HUP.out _ (List.getElem_mem hkl)
          obtain ⟨x, hx⟩ : ∃ x, x = l[k] := ⟨_, rfl⟩
          have HX := hideZ hx
          rw [← hx] at ci hx255
          clear hc hx
          by_cases h0 : x = 0
          · have HZ1 : Hid (zst (l.take (k + 1)) = ((zst (l.take k)).1, z + 1)) := by
              unfold Hid
              rw [zst_zero hkl (by rw [← HX.out]; exact h0), HZ.out]
            have hbx : (x == 0) = true := beq_iff_eq.2 h0
            clear h0
            go_wp2_with fail
            go_roundw
            case rel => exact ⟨k + 1, z + 1, by go_num, by go_num, by omega, by rw [HZ1.out], by rw [HZ1.out]; exact G1.out, GB.out⟩
            case measure => simp [intOf]; omega
          · have HZ1 : Hid (zst (l.take (k + 1)) = ((zst (l.take k)).1 ++ zrun z ++ [x + 1], 0)) := by
              unfold Hid
              rw [zst_other hkl (by rw [← HX.out]; exact h0), HZ.out, HX.out]
            have hbx : (x == 0) = false := beq_eq_false_iff_ne.2 h0
            have HPZ := hideZ (putZeros_any (zst (l.take k)).1 z w.heap.size (.slice a' nl cap') wr G1.out (by omega) (by have := HNL.out; omega))
            have hrl := zrun_len z
            clear h0
            go_wp2_with fail
            refine HPZ.out.mono ?_
            rintro e w4 ⟨v4, rfl, hown4, hbel4⟩
            have HL4 : Hid (((zst (l.take k)).1 ++ zrun z).length ≤ 400) := by
              unfold Hid
              rw [List.length_append, HNL.out]
              omega
            obtain ⟨l4, hl4⟩ : ∃ l4, l4 = (zst (l.take k)).1 ++ zrun z := ⟨_, rfl⟩
            rw [← hl4] at hown4 HZ1 HL4
            have G4 := hideZ hown4
            have B4 := hideZ (GB.out.trans hbel4)
            have z4 := hbel4.size
            obtain ⟨a4, cap4, rfl, _, _⟩ := hown4.ints
            clear hown4 hbel4 hl4
            go_wp2_with (at_builtin; refine wpList_append_own _ rfl (.tmp 27) (.tmp 30) 23 rfl w.heap.size 2 i0 (.int .i64 0) 1 8 Try.underlying23 hi0 hz0 hz1 hz2 rfl (by decide) _ _ _ rfl (OwnI.alloc G4.out _) ⟨w4.heap.size, 0, none⟩ 1 1 [.int .i64 (x + 1)] rfl rfl (one_newI _ _ _) (one_cellI _) (by unfold maxLen; have := HL4.out; omega) (by have := HL4.out; omega) (by simp; omega) ?_)
            intro v' w5 hown' hgrow _
            have N5 := hideZ (OwnI.snoc hown')
            have b5 := hideZ (app_one B4.out (by omega) (Nat.le_refl _) G4.out hgrow)
            clear hown' hgrow
            go_wp2_with fail
            go_roundw
            case rel => exact ⟨k + 1, 0, by go_num, rfl, by omega, by rw [HZ1.out], by rw [HZ1.out]; exact N5.out, b5.out⟩
            case measure => simp [intOf]; omega
        · have hkn : k = l.length := by have := HLN.out; omega
          have HT : Hid (l.take k = l) := by
            unfold Hid
            rw [hkn, List.take_length]
          have HPZ := hideZ (putZeros_any (zst (l.take k)).1 z w.heap.size (.slice a' nl cap') wr G1.out (by omega) (by have := HNL.out; omega))
          rw [HT.out] at HPZ HZ
          rw [HZ.out] at HPZ ⊢
          clear hkn HZ
          go_wp2_with fail
          refine HPZ.out.mono ?_
          rintro e w4 ⟨v4, rfl, hown4, hbel4⟩
          have G4 := hideZ hown4
          have B4 := hideZ (GB.out.trans hbel4)
          clear hown4 hbel4
          go_wp2_with fail
          go_ret
          exact ⟨_, rfl, G4.out, B4.out⟩
end Go.Proofs.Ytdnmbagdegbnfaa.Ze
