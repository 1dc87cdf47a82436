/- What the specification's ZerosOf answers, in whole. -/
import Derived.Test.YtmkpakhpjgocjaaBp26
namespace Go.Proofs.Ytmkpakhpjgocjaa.Ze
open Go.RowKit
open Go.Proofs.Ytmkpakhpjgocjaa.In (Ints OwnI IsO one_newI one_cellI app_one)
open Go.Proofs.Ytmkpakhpjgocjaa.In.Try (infoI2)

set_option maxRecDepth 100000 in
set_option maxHeartbeats 1000000 in
theorem zerosOf_spec (l : List Int) (a : Option Addr) (cap B : Nat) (w : World) (hi : Ints w B a l) (hB : B ≤ w.heap.size) (hn : l.length ≤ 1048576) :
    Calls Try.prog 49 #[.slice a l.length cap] w fun e w' => ∃ v, e = .returned v ∧ OwnI w' w.heap.size v (zerosR l) ∧ Below w.heap.size w w' := by
  obtain ⟨i0, hi0, hz0, hz1, hz2⟩ := info_parts infoI2
  have hb0 : Below w.heap.size w (w.alloc (.cells #[] 2)) := (Below.refl _ _).alloc (Nat.le_refl _) _
  have HU := hideZ (nums_spec l 255 a cap w.heap.size (w.alloc (.cells #[] 2)) ((hi.mono hB).below hb0) hn)
  have HW := hideZ (OwnI.empty w)
  have HB0 := hideZ hb0
  cases hu : numsR l 255 with
  | false =>
    rw [zerosR_no hu]
    rw [hu] at HU
    clear hi hu hb0
    generalize l.length = n at HU hn ⊢
    go_enter Try.func49, Try.ntmps49
    go_wp2_with fail
    refine HU.out.mono ?_
    rintro e w' ⟨rfl, hw⟩
    subst w'
    go_wp2_with fail
    go_ret
    exact ⟨_, rfl, HW.out, HB0.out⟩
  | true =>
    rw [zerosR_yes hu]
    have HUP := hideZ (upTo_yes (numsR_yes hu).2)
    have hlong := (numsR_yes hu).1
    rw [hu] at HU
    have HS := hideZ (hi.mono hB)
    clear hi hu hb0
    obtain ⟨n, hln⟩ : ∃ n, n = l.length := ⟨_, rfl⟩
    have HLN := hideZ hln
    rw [← hln] at HU hlong ⊢
    clear hln hn
    go_enter Try.func49, Try.ntmps49
    go_wp2_with fail
    refine HU.out.mono ?_
    rintro e w' ⟨rfl, hw⟩
    subst w'
    go_wp2_with fail
    go_loopw [5, 3, 4] (fun i u m wr => ∃ k z : Nat, i = .int .i64 k ∧ m = .int .i64 z ∧ k ≤ n ∧ z = (zst (l.take k)).2 ∧ OwnI wr w.heap.size u (zst (l.take k)).1 ∧ Below w.heap.size w wr) (fun i _ _ _ => n - (intOf i).toNat)
    case atStart => exact ⟨0, 0, rfl, rfl, Nat.zero_le _, rfl, HW.out, HB0.out⟩
    case round =>
      obtain ⟨k, z, rfl, rfl, hk, hz, hown, hbel⟩ := hrel
      have hzl := zst_len (l.take k)
      rw [List.length_take] at hzl
      have hzk : (zst (l.take k)).1.length + z ≤ k := by omega
      have GB := hideZ hbel
      have HZ := hideZ hz
      have hsz := hbel.size
      have hrl := zrun_len z
      obtain ⟨a', cap', rfl, _, _⟩ := hown.ints
      obtain ⟨lk, hlk⟩ : ∃ lk, lk = (zst (l.take k)).1 := ⟨_, rfl⟩
      rw [← hlk] at hown hzk ⊢
      have G1 := hideZ hown
      have HLK := hideZ hlk
      clear hz hown hbel hlk hzl
      have HRS := hideZ (fun W => run_spec z W (by omega))
      by_cases hlt : k < n
      · have hkl : k < l.length := by rw [← HLN.out]; exact hlt
        obtain ⟨b, off, rfl, hb, hc⟩ := (HS.out.below GB.out).some (by omega)
        have ci := hc k hkl
        have hx255 := HUP.out _ (List.getElem_mem hkl)
        obtain ⟨x, hx⟩ : ∃ x, x = l[k] := ⟨_, rfl⟩
        have HX := hideZ hx
        rw [← hx] at ci hx255
        clear hc hx
        by_cases h0 : x = 0
        · have HZ1 : Hid (zst (l.take (k + 1)) = (lk, z + 1)) := by
            unfold Hid
            rw [zst_zero hkl (by rw [← HX.out]; exact h0), HZ.out, HLK.out]
          have hbx : (x == 0) = true := beq_iff_eq.2 h0
          clear h0
          go_wp2_with fail
          go_roundw
          case rel => exact ⟨k + 1, z + 1, by go_num, by go_num, by omega, by rw [HZ1.out], by rw [HZ1.out]; exact G1.out, GB.out⟩
          case measure => simp [intOf]; omega
        · have HZ1 : Hid (zst (l.take (k + 1)) = (lk ++ zrun z ++ [x + 1], 0)) := by
            unfold Hid
            rw [zst_other hkl (by rw [← HX.out]; exact h0), HZ.out, HX.out, HLK.out]
          have hbx : (x == 0) = false := beq_eq_false_iff_ne.2 h0
          clear h0
          go_wp2_with fail
          refine (HRS.out wr).mono ?_
          rintro e w4 ⟨v4, rfl, hown4, hne4, hbel4⟩
          have G4 := hideZ (G1.out.below hbel4)
          have B4 := hideZ (GB.out.trans (hbel4.mono hsz))
          have z4 := hbel4.size
          obtain ⟨g4, cap4, rfl, hg4, hg4', ho4⟩ := own_some hown4 hne4
          have O4 := hideZ ho4
          clear hown4 hbel4 hne4 ho4
          obtain ⟨rl, hrl2⟩ : ∃ rl, rl = zrun z := ⟨_, rfl⟩
          rw [← hrl2] at O4 hrl HZ1 ⊢
          clear hrl2 HRS
          go_wp2_with (at_builtin; refine wpList_append_own _ rfl (.tmp 24) (.tmp 26) 23 rfl w.heap.size 2 i0 (.int .i64 0) 1 8 Try.underlying23 hi0 hz0 hz1 hz2 rfl (by decide) _ _ _ rfl G4.out ⟨g4, 0, none⟩ _ cap4 (rl.map (Value.int .i64)) rfl (by simp) (own_news O4.out) (own_cells rl) (by unfold maxLen; omega) (by omega) (by omega) ?_)
          intro v' w5 hown' hgrow _
          have hown5 := OwnI.joined hown'
          have b5 := app_row B4.out (by omega) (Nat.le_refl _) G4.out hgrow
          have HL4 : Hid ((lk ++ rl).length ≤ 400) := by
            unfold Hid
            rw [List.length_append]
            omega
          obtain ⟨l4, hl4⟩ : ∃ l4, l4 = lk ++ rl := ⟨_, rfl⟩
          rw [← hl4] at hown5 HZ1 HL4
          have N5 := hideZ hown5
          have B5 := hideZ b5
          have z5 := b5.size
          obtain ⟨a5, cap5, rfl, _, _⟩ := hown5.ints
          have c5 : w5.cell? ⟨b, off + k, none⟩ = some (.int .i64 x) := by
            have h1 := ((HS.out.below b5).some (by omega : 0 < l.length))
            obtain ⟨b', off', e1, _, hc'⟩ := h1
            cases e1
            rw [hc' k hkl, HX.out]
          clear hown' hgrow hown5 b5 hl4 ci
          go_wp2_with (at_builtin; refine wpList_append_own _ rfl (.tmp 28) (.tmp 34) 23 rfl w.heap.size 2 i0 (.int .i64 0) 1 8 Try.underlying23 hi0 hz0 hz1 hz2 rfl (by decide) _ _ _ rfl (OwnI.alloc N5.out _) ⟨w5.heap.size, 0, none⟩ 1 1 [.int .i64 (x + 1)] rfl rfl (one_newI _ _ _) (one_cellI _) (by unfold maxLen; have := HL4.out; omega) (by have := HL4.out; omega) (by simp; omega) ?_)
          intro v' w6 hown' hgrow _
          have N6 := hideZ (OwnI.snoc hown')
          have b6 := hideZ (app_one B5.out (by omega) (Nat.le_refl _) N5.out hgrow)
          clear hown' hgrow
          go_wp2_with fail
          go_roundw
          case rel => exact ⟨k + 1, 0, by go_num, rfl, by omega, by rw [HZ1.out], by rw [HZ1.out]; exact N6.out, b6.out⟩
          case measure => simp [intOf]; omega
      · have hkn : k = l.length := by have := HLN.out; omega
        have HT : Hid (l.take k = l) := by
          unfold Hid
          rw [hkn, List.take_length]
        have HR : Hid ((zst l).1 ++ zrun (zst l).2 = lk ++ zrun z) := by
          unfold Hid
          rw [HLK.out, HZ.out, HT.out]
        clear hkn
        go_wp2_with fail
        refine (HRS.out wr).mono ?_
        rintro e w4 ⟨v4, rfl, hown4, hne4, hbel4⟩
        have G4 := hideZ (G1.out.below hbel4)
        have B4 := hideZ (GB.out.trans (hbel4.mono hsz))
        have z4 := hbel4.size
        obtain ⟨g4, cap4, rfl, hg4, hg4', ho4⟩ := own_some hown4 hne4
        have O4 := hideZ ho4
        clear hown4 hbel4 hne4 ho4
        obtain ⟨rl, hrl2⟩ : ∃ rl, rl = zrun z := ⟨_, rfl⟩
        rw [← hrl2] at O4 hrl HR ⊢
        clear hrl2 HRS
        go_wp2_with (at_builtin; refine wpList_append_own _ rfl (.tmp 36) (.tmp 38) 23 rfl w.heap.size 2 i0 (.int .i64 0) 1 8 Try.underlying23 hi0 hz0 hz1 hz2 rfl (by decide) _ _ _ rfl G4.out ⟨g4, 0, none⟩ _ cap4 (rl.map (Value.int .i64)) rfl (by simp) (own_news O4.out) (own_cells rl) (by unfold maxLen; omega) (by omega) (by omega) ?_)
        intro v' w5 hown' hgrow _
        have N5 := hideZ (OwnI.joined hown')
        have B5 := hideZ (app_row B4.out (by omega) (Nat.le_refl _) G4.out hgrow)
        clear hown' hgrow
        go_wp2_with fail
        go_ret
        exact ⟨_, rfl, by rw [HR.out]; exact N5.out, B5.out⟩
end Go.Proofs.Ytmkpakhpjgocjaa.Ze
