/- Texts put together: ZeroWalks, ZeroTop, ZeroSpec. -/
import Derived.Test.YtmkpakhpjgocjaaCz5
import Derived.Test.YtmkpakhpjgocjaaCz19
import Derived.Test.YtmkpakhpjgocjaaCz13
/- The walks of both ZerosOf. -/
namespace Go.Proofs.Ytmkpakhpjgocjaa.Ze
open Go.RowKit
open Go.Proofs.Ytmkpakhpjgocjaa.Bi (upTo_impl ret_boolB)
open Go.Proofs.Ytmkpakhpjgocjaa.In (Ints OwnI one_newI one_cellI app_one)
open Go.Proofs.Ytmkpakhpjgocjaa.In.Try (infoI2)

theorem OwnI.alloc {w : World} {base : Nat} {v : Value} {l : List Int} (h : OwnI w base v l) (o : Obj) : OwnI (w.alloc o) base v l :=
  h.below ((Below.refl _ _).alloc (Nat.le_refl _) o)

set_option maxRecDepth 100000 in
set_option maxHeartbeats 1000000 in
theorem putZeros_any (l : List Int) (r base : Nat) (v : Value) (w : World) (ho : OwnI w base v l) (hb : base ≤ w.heap.size) (hs : l.length + r ≤ 1048576) :
    Calls Try.prog 105 #[v, .int .i64 r] w fun e w' => ∃ v', e = .returned v' ∧ OwnI w' base v' (l ++ zrun r) ∧ Below base w w' := by
  obtain ⟨i0, hi0, hz0, hz1, hz2⟩ := info_parts infoI2
  have HO := hideZ ho
  obtain ⟨a, cap, rfl, _, _⟩ := ho.ints
  clear ho
  generalize hln : l.length = n at hs HO
  have HLN := hideZ hln
  clear hln
  go_enter Try.func105, Try.ntmps105
  go_wp2_with fail
  go_loopw [0, 1] (fun u m wr => ∃ (l' : List Int) (r' : Nat), m = .int .i64 r' ∧ OwnI wr base u l' ∧ l' ++ zrun r' = l ++ zrun r ∧ l'.length + r' ≤ 1048576 ∧ Below base w wr) (fun _ m _ => (intOf m).toNat)
  case atStart => exact ⟨l, r, rfl, HO.out, rfl, by have := HLN.out; omega, Below.refl _ _⟩
  case round =>
    obtain ⟨l', r', rfl, hown, he, hs', hbel⟩ := hrel
    have G1 := hideZ hown
    have GB := hideZ hbel
    have HE := hideZ he
    have hz := hbel.size
    have HS := hideZ hs'
    have hs2 : r' ≤ 1048576 := by omega
    clear he hbel hs'
    obtain ⟨a', cap', rfl, _, _⟩ := hown.ints
    clear hown
    by_cases h0 : 0 < r'
    · by_cases h1 : r' % 2 = 1
      · have hq : (r' : Int).tmod 2 = 1 := by rw [Int.tmod_eq_emod_of_nonneg (by omega)]; omega
        have hd : ((r' : Int) - 1).tdiv 2 = (((r' - 1) / 2 : Nat) : Int) := by rw [Int.tdiv_eq_ediv_of_nonneg (by omega)]; omega
        have HZ : Hid (l' ++ ([0] ++ zrun ((r' - 1) / 2)) = l ++ zrun r) := by
          unfold Hid
          rw [← HE.out, zrun_odd h1]
          rfl
        go_wp2_with (at_builtin; refine wpList_append_own _ rfl (.tmp 10) (.tmp 11) 23 rfl base 2 i0 (.int .i64 0) 1 8 Try.underlying23 hi0 hz0 hz1 hz2 rfl (by decide) _ _ _ rfl (OwnI.alloc G1.out _) ⟨wr.heap.size, 0, none⟩ 1 1 [.int .i64 0] rfl rfl (one_newI _ _ _) (one_cellI _) (by unfold maxLen; have := HS.out; omega) (by have := HS.out; omega) (by simp; omega) ?_)
        intro v' w5 hown' hgrow _
        have N5 := hideZ (OwnI.snoc hown')
        have b5 := hideZ (app_one GB.out (by omega) (Nat.le_refl _) G1.out hgrow)
        clear hown' hgrow
        go_wp2_with fail
        go_roundw
        case rel => exact ⟨l' ++ [0], (r' - 1) / 2, by go_num, N5.out, by rw [List.append_assoc]; exact HZ.out, by have := HS.out; simp; omega, b5.out⟩
        case measure => simp [intOf]; omega
      · have hq : (r' : Int).tmod 2 = 0 := by rw [Int.tmod_eq_emod_of_nonneg (by omega)]; omega
        have hd : ((r' : Int) - 2).tdiv 2 = (((r' - 2) / 2 : Nat) : Int) := by rw [Int.tdiv_eq_ediv_of_nonneg (by omega)]; omega
        have HZ : Hid (l' ++ ([1] ++ zrun ((r' - 2) / 2)) = l ++ zrun r) := by
          unfold Hid
          rw [← HE.out, zrun_even h0 h1]
          rfl
        go_wp2_with (at_builtin; refine wpList_append_own _ rfl (.tmp 16) (.tmp 17) 23 rfl base 2 i0 (.int .i64 0) 1 8 Try.underlying23 hi0 hz0 hz1 hz2 rfl (by decide) _ _ _ rfl (OwnI.alloc G1.out _) ⟨wr.heap.size, 0, none⟩ 1 1 [.int .i64 1] rfl rfl (one_newI _ _ _) (one_cellI _) (by unfold maxLen; have := HS.out; omega) (by have := HS.out; omega) (by simp; omega) ?_)
        intro v' w5 hown' hgrow _
        have N5 := hideZ (OwnI.snoc hown')
        have b5 := hideZ (app_one GB.out (by omega) (Nat.le_refl _) G1.out hgrow)
        clear hown' hgrow
        go_wp2_with fail
        go_roundw
        case rel => exact ⟨l' ++ [1], (r' - 2) / 2, by go_num, N5.out, by rw [List.append_assoc]; exact HZ.out, by have := HS.out; simp; omega, b5.out⟩
        case measure => simp [intOf]; omega
    · obtain rfl : r' = 0 := by omega
      have HZ : Hid (l' = l ++ zrun r) := by
        unfold Hid
        rw [← HE.out, zrun_zero, List.append_nil]
      go_wp2_with fail
      go_ret
      exact ⟨_, rfl, by rw [← HZ.out]; exact G1.out, GB.out⟩
end Go.Proofs.Ytmkpakhpjgocjaa.Ze

/- What both ZerosOf answer. -/
namespace Go.Proofs.Ytmkpakhpjgocjaa.Ze
open Go.RowKit
open Go.Proofs.Ytmkpakhpjgocjaa.Bi (upTo_impl ret_boolB is_yes is_no)
open Go.Proofs.Ytmkpakhpjgocjaa.In (Ints OwnI one_newI one_cellI app_one)
open Go.Proofs.Ytmkpakhpjgocjaa.In.Try (infoI2)

theorem OwnI.empty (w : World) : OwnI (w.alloc (.cells #[] 2)) w.heap.size (.slice (some ⟨w.heap.size, 0, none⟩) 0 0) [] :=
  ⟨rfl, .inr ⟨w.heap.size, 0, #[], rfl, Nat.le_refl _, heap_alloc_last w _, Nat.le_refl _, by decide, rfl, rfl⟩⟩

set_option maxRecDepth 100000 in
set_option maxHeartbeats 1000000 in
theorem zerosOf_impl (l : List Int) (a : Option Addr) (cap B : Nat) (w : World) (hi : Ints w B a l) (hB : B ≤ w.heap.size) (hn : l.length ≤ 1048576) :
    Calls Try.prog 41 #[.slice a l.length cap] w fun e w' => ∃ v, e = .returned v ∧ OwnI w' w.heap.size v (zerosR l) ∧ Below w.heap.size w w' := by
  obtain ⟨i0, hi0, hz0, hz1, hz2⟩ := info_parts infoI2
  by_cases hlong : 400 < l.length
  · rw [zerosR_no (numsR_long hlong)]
    clear hi
    generalize l.length = n at hlong hn ⊢
    go_enter Try.func41, Try.ntmps41
    go_wp2_with fail
    go_ret
    exact ⟨_, rfl, OwnI.nil _ _, Below.refl _ _⟩
  · have HU := hideZ (upTo_impl l 255 a cap B w hi hn)
    cases hu : upTo l 255 with
    | false =>
      rw [zerosR_no ((numsR_of (by omega)).trans hu)]
      rw [hu] at HU
      clear hi hu
      generalize l.length = n at HU hlong hn ⊢
      have hd : decide (400 < (n : Int)) = false := decide_eq_false (by omega)
      go_enter Try.func41, Try.ntmps41
      go_wp2_with fail
      refine HU.out.mono ?_
      rintro e w' ⟨rfl, hw⟩
      subst w'
      go_wp2_with fail
      go_ret
      exact ⟨_, rfl, OwnI.nil _ _, Below.refl _ _⟩
    | true =>
      rw [zerosR_yes ((numsR_of (by omega)).trans hu)]
      have HUP := hideZ (upTo_yes hu)
      rw [hu] at HU
      have HS := hideZ (hi.mono hB)
      clear hi hu
      obtain ⟨n, hln⟩ : ∃ n, n = l.length := ⟨_, rfl⟩
      have HLN := hideZ hln
      rw [← hln] at HU hlong ⊢
      clear hln hn
      have hd : decide (400 < (n : Int)) = false := decide_eq_false (by omega)
      go_enter Try.func41, Try.ntmps41
      go_wp2_with fail
      refine HU.out.mono ?_
      rintro e w' ⟨rfl, hw⟩
      subst w'
      go_wp2_with fail
      go_loopw [17, 3, 4] (fun i u m wr => ∃ k z : Nat, i = .int .i64 k ∧ m = .int .i64 z ∧ k ≤ n ∧ z = (zst (l.take k)).2 ∧ OwnI wr w.heap.size u (zst (l.take k)).1 ∧ Below w.heap.size w wr) (fun i _ _ _ => n - (intOf i).toNat)
      case atStart => exact ⟨0, 0, rfl, rfl, Nat.zero_le _, rfl, OwnI.nil _ _, Below.refl _ _⟩
      case round =>
        obtain ⟨k, z, rfl, rfl, hk, hz, hown, hbel⟩ := hrel
        have hzl := zst_len (l.take k)
        rw [List.length_take] at hzl
        have hzk : (zst (l.take k)).1.length + z ≤ k := by omega
        have G1 := hideZ hown
        have GB := hideZ hbel
        have HZ := hideZ hz
        have hsz := hbel.size
        clear hzl
        obtain ⟨a', cap', rfl, _, _⟩ := hown.ints
        generalize hnl : (zst (l.take k)).1.length = nl at hzk G1
        have HNL := hideZ hnl
        clear hz hown hbel hnl
        by_cases hlt : k < n
        · have hkl : k < l.length := by rw [← HLN.out]; exact hlt
          obtain ⟨b, off, rfl, hb, hc⟩ := (HS.out.below GB.out).some (by omega)
          have ci := hc k hkl
          have hx255 := HUP.out _ (List.getElem_mem hkl)
          obtain ⟨x, hx⟩ : ∃ x, x = l[k] := ⟨_, rfl⟩
          have HX := hideZ hx
          rw [← hx] at ci hx255
          clear hc hx
          by_cases h0 : x = 0
          · have HZ1 : Hid (zst (l.take (k + 1)) = ((zst (l.take k)).1, z + 1)) := by
              unfold Hid
              rw [zst_zero hkl (by rw [← HX.out]; exact h0), HZ.out]
            have hbx : (x == 0) = true := beq_iff_eq.2 h0
            clear h0
            go_wp2_with fail
            go_roundw
            case rel => exact ⟨k + 1, z + 1, by go_num, by go_num, by omega, by rw [HZ1.out], by rw [HZ1.out]; exact G1.out, GB.out⟩
            case measure => simp [intOf]; omega
          · have HZ1 : Hid (zst (l.take (k + 1)) = ((zst (l.take k)).1 ++ zrun z ++ [x + 1], 0)) := by
              unfold Hid
              rw [zst_other hkl (by rw [← HX.out]; exact h0), HZ.out, HX.out]
            have hbx : (x == 0) = false := beq_eq_false_iff_ne.2 h0
            have HPZ := hideZ (putZeros_any (zst (l.take k)).1 z w.heap.size (.slice a' nl cap') wr G1.out (by omega) (by have := HNL.out; omega))
            have hrl := zrun_len z
            clear h0
            go_wp2_with fail
            refine HPZ.out.mono ?_
            rintro e w4 ⟨v4, rfl, hown4, hbel4⟩
            have HL4 : Hid (((zst (l.take k)).1 ++ zrun z).length ≤ 400) := by
              unfold Hid
              rw [List.length_append, HNL.out]
              omega
            obtain ⟨l4, hl4⟩ : ∃ l4, l4 = (zst (l.take k)).1 ++ zrun z := ⟨_, rfl⟩
            rw [← hl4] at hown4 HZ1 HL4
            have G4 := hideZ hown4
            have B4 := hideZ (GB.out.trans hbel4)
            have z4 := hbel4.size
            obtain ⟨a4, cap4, rfl, _, _⟩ := hown4.ints
            clear hown4 hbel4 hl4
            go_wp2_with (at_builtin; refine wpList_append_own _ rfl (.tmp 27) (.tmp 30) 23 rfl w.heap.size 2 i0 (.int .i64 0) 1 8 Try.underlying23 hi0 hz0 hz1 hz2 rfl (by decide) _ _ _ rfl (OwnI.alloc G4.out _) ⟨w4.heap.size, 0, none⟩ 1 1 [.int .i64 (x + 1)] rfl rfl (one_newI _ _ _) (one_cellI _) (by unfold maxLen; have := HL4.out; omega) (by have := HL4.out; omega) (by simp; omega) ?_)
            intro v' w5 hown' hgrow _
            have N5 := hideZ (OwnI.snoc hown')
            have b5 := hideZ (app_one B4.out (by omega) (Nat.le_refl _) G4.out hgrow)
            clear hown' hgrow
            go_wp2_with fail
            go_roundw
            case rel => exact ⟨k + 1, 0, by go_num, rfl, by omega, by rw [HZ1.out], by rw [HZ1.out]; exact N5.out, b5.out⟩
            case measure => simp [intOf]; omega
        · have hkn : k = l.length := by have := HLN.out; omega
          have HT : Hid (l.take k = l) := by
            unfold Hid
            rw [hkn, List.take_length]
          have HPZ := hideZ (putZeros_any (zst (l.take k)).1 z w.heap.size (.slice a' nl cap') wr G1.out (by omega) (by have := HNL.out; omega))
          rw [HT.out] at HPZ HZ
          rw [HZ.out] at HPZ ⊢
          clear hkn HZ
          go_wp2_with fail
          refine HPZ.out.mono ?_
          rintro e w4 ⟨v4, rfl, hown4, hbel4⟩
          have G4 := hideZ hown4
          have B4 := hideZ (GB.out.trans hbel4)
          clear hown4 hbel4
          go_wp2_with fail
          go_ret
          exact ⟨_, rfl, G4.out, B4.out⟩
end Go.Proofs.Ytmkpakhpjgocjaa.Ze

/- What the specification's ZerosOf answers. -/
namespace Go.Proofs.Ytmkpakhpjgocjaa.Ze
open Go.RowKit
open Go.Proofs.Ytmkpakhpjgocjaa.Bi (ret_boolB is_yes is_no)
open Go.Proofs.Ytmkpakhpjgocjaa.In (Ints OwnI IsO one_newI one_cellI app_one)
open Go.Proofs.Ytmkpakhpjgocjaa.In.Try (infoI2)

set_option maxHeartbeats 1000000 in
theorem nums_spec (l : List Int) (m : Int) (a : Option Addr) (cap B : Nat) (w : World) (hi : Ints w B a l) (hn : l.length ≤ 1048576) :
    Calls Try.prog 111 #[.slice a l.length cap, .int .i64 m] w fun e w' => e = .returned (.bool (numsR l m)) ∧ w' = w := by
  have HS := hideZ hi
  clear hi
  obtain ⟨n, hln⟩ : ∃ n, n = l.length := ⟨_, rfl⟩
  have HLN := hideZ hln
  rw [← hln] at hn ⊢
  clear hln
  go_enter Try.func111, Try.ntmps111
  go_wp2_with fail
  go_loopw [5] (fun i wr => ∃ k : Nat, i = .int .i64 k ∧ k ≤ n ∧ (∀ j (hj : j < l.length), j < k → 0 ≤ l[j] ∧ l[j] ≤ m) ∧ wr = w) (fun i _ => n - (intOf i).toNat)
  case atStart => exact ⟨0, rfl, Nat.zero_le _, fun j hj h0 => absurd h0 (Nat.not_lt_zero j), rfl⟩
  case round =>
    obtain ⟨k, rfl, hk, hall, hw⟩ := hrel
    subst hw
    have HA := hideZ hall
    clear hall
    by_cases hlt : k < n
    · have hkl : k < l.length := by rw [← HLN.out]; exact hlt
      obtain ⟨b, off, rfl, hb, hc⟩ := HS.out.some (by omega)
      have ci := hc k hkl
      obtain ⟨x, hx⟩ : ∃ x, x = l[k] := ⟨_, rfl⟩
      have HX := hideZ hx
      rw [← hx] at ci
      clear hc hx
      by_cases h0 : x < 0 ∨ m < x
      · have HE : Hid (numsR l m = false) := by
          have := upTo_bad (m := m) hkl (by rw [← HX.out]; exact h0)
          unfold Hid numsR
          rw [this, Bool.and_false]
        have HI := hideZ (is_no x 0 m wr h0)
        clear h0
        go_wp2_with fail
        refine HI.out.mono ?_
        rintro e w' ⟨rfl, hw⟩
        subst w'
        go_wp2_with fail
        go_ret
        exact ⟨ret_boolB HE.out.symm, rfl⟩
      · have HI := hideZ (is_yes x 0 m wr (by omega) (by omega))
        have HX2 : Hid (0 ≤ x ∧ x ≤ m) := by
          unfold Hid
          omega
        clear h0
        go_wp2_with fail
        refine HI.out.mono ?_
        rintro e w' ⟨rfl, hw⟩
        subst w'
        go_wp2_with fail
        go_roundw
        case rel =>
          refine ⟨k + 1, by go_num, by omega, fun j hj hjk => ?_, trivial⟩
          by_cases e : j = k
          · subst e
            rw [← HX.out]
            exact HX2.out
          · exact HA.out j hj (by omega)
        case measure => simp [intOf]; omega
    · have HU : Hid (upTo l m = true) := upTo_of (fun x hx => by
        obtain ⟨j, hj, rfl⟩ := List.getElem_of_mem hx
        exact HA.out j hj (by have := HLN.out; omega))
      by_cases h4 : n ≤ 400
      · have HE : Hid (numsR l m = true) := by
          unfold Hid
          rw [numsR_of (by have := HLN.out; omega)]
          exact HU.out
        have h4' : (n : Int) ≤ 400 := by omega
        go_wp2_with fail
        go_ret
        exact ⟨ret_boolB HE.out.symm, rfl⟩
      · have HE : Hid (numsR l m = false) := numsR_long (by have := HLN.out; omega)
        have h4' : decide ((n : Int) ≤ 400) = false := decide_eq_false (by omega)
        go_wp2_with fail
        go_ret
        exact ⟨ret_boolB HE.out.symm, rfl⟩

set_option maxRecDepth 100000 in
set_option maxHeartbeats 1000000 in
theorem run_spec (r : Nat) (w : World) (hs : r ≤ 1048576) :
    Calls Try.prog 112 #[.int .i64 r] w fun e w' => ∃ v, e = .returned v ∧ OwnI w' w.heap.size v (zrun r) ∧ v ≠ .slice none 0 0 ∧ Below w.heap.size w w' := by
  obtain ⟨i0, hi0, hz0, hz1, hz2⟩ := info_parts infoI2
  have HW := hideZ (OwnI.empty w)
  go_enter Try.func112, Try.ntmps112
  go_wp2_with fail
  go_loopw [3, 0] (fun u m wr => ∃ (l' : List Int) (r' : Nat), m = .int .i64 r' ∧ OwnI wr w.heap.size u l' ∧ u ≠ .slice none 0 0 ∧ l' ++ zrun r' = zrun r ∧ l'.length + r' ≤ 1048576 ∧ Below w.heap.size w wr) (fun _ m _ => (intOf m).toNat)
  case atStart => exact ⟨[], r, rfl, HW.out, by simp, rfl, by simpa using hs, (Below.refl _ _).alloc (Nat.le_refl _) _⟩
  case round =>
    obtain ⟨l', r', rfl, hown, hne, he, hs', hbel⟩ := hrel
    have G1 := hideZ hown
    have GB := hideZ hbel
    have HE := hideZ he
    have hz := hbel.size
    have HS := hideZ hs'
    have hs2 : r' ≤ 1048576 := by omega
    clear he hbel hs'
    obtain ⟨a', cap', rfl, _, _⟩ := hown.ints
    have HNE := hideZ hne
    clear hown hne
    by_cases h0 : 0 < r'
    · by_cases h1 : r' % 2 = 1
      · have hq : (r' : Int).tmod 2 = 1 := by rw [Int.tmod_eq_emod_of_nonneg (by omega)]; omega
        have hd : ((r' : Int) - 1).tdiv 2 = (((r' - 1) / 2 : Nat) : Int) := by rw [Int.tdiv_eq_ediv_of_nonneg (by omega)]; omega
        have HZ : Hid (l' ++ ([0] ++ zrun ((r' - 1) / 2)) = zrun r) := by
          unfold Hid
          rw [← HE.out, zrun_odd h1]
          rfl
        go_wp2_with (at_builtin; refine wpList_append_own _ rfl (.tmp 10) (.tmp 11) 23 rfl w.heap.size 2 i0 (.int .i64 0) 1 8 Try.underlying23 hi0 hz0 hz1 hz2 rfl (by decide) _ _ _ rfl (OwnI.alloc G1.out _) ⟨wr.heap.size, 0, none⟩ 1 1 [.int .i64 0] rfl rfl (one_newI _ _ _) (one_cellI _) (by unfold maxLen; have := HS.out; omega) (by have := HS.out; omega) (by simp; omega) ?_)
        intro v' w5 hown' hgrow hnn
        have N5 := hideZ (OwnI.snoc hown')
        have b5 := hideZ (app_one GB.out (by omega) (Nat.le_refl _) G1.out hgrow)
        have HN5 : Hid (v' ≠ .slice none 0 0) := hnn
        clear hown' hgrow hnn
        go_wp2_with fail
        go_roundw
        case rel => exact ⟨l' ++ [0], (r' - 1) / 2, by go_num, N5.out, HN5.out, by rw [List.append_assoc]; exact HZ.out, by have := HS.out; simp; omega, b5.out⟩
        case measure => simp [intOf]; omega
      · have hq : (r' : Int).tmod 2 = 0 := by rw [Int.tmod_eq_emod_of_nonneg (by omega)]; omega
        have hd : ((r' : Int) - 2).tdiv 2 = (((r' - 2) / 2 : Nat) : Int) := by rw [Int.tdiv_eq_ediv_of_nonneg (by omega)]; omega
        have HZ : Hid (l' ++ ([1] ++ zrun ((r' - 2) / 2)) = zrun r) := by
          unfold Hid
          rw [← HE.out, zrun_even h0 h1]
          rfl
        go_wp2_with (at_builtin; refine wpList_append_own _ rfl (.tmp 16) (.tmp 17) 23 rfl w.heap.size 2 i0 (.int .i64 0) 1 8 Try.underlying23 hi0 hz0 hz1 hz2 rfl (by decide) _ _ _ rfl (OwnI.alloc G1.out _) ⟨wr.heap.size, 0, none⟩ 1 1 [.int .i64 1] rfl rfl (one_newI _ _ _) (one_cellI _) (by unfold maxLen; have := HS.out; omega) (by have := HS.out; omega) (by simp; omega) ?_)
        intro v' w5 hown' hgrow hnn
        have N5 := hideZ (OwnI.snoc hown')
        have b5 := hideZ (app_one GB.out (by omega) (Nat.le_refl _) G1.out hgrow)
        have HN5 : Hid (v' ≠ .slice none 0 0) := hnn
        clear hown' hgrow hnn
        go_wp2_with fail
        go_roundw
        case rel => exact ⟨l' ++ [1], (r' - 2) / 2, by go_num, N5.out, HN5.out, by rw [List.append_assoc]; exact HZ.out, by have := HS.out; simp; omega, b5.out⟩
        case measure => simp [intOf]; omega
    · obtain rfl : r' = 0 := by omega
      have HZ : Hid (l' = zrun r) := by
        unfold Hid
        rw [← HE.out, zrun_zero, List.append_nil]
      go_wp2_with fail
      go_ret
      exact ⟨_, rfl, by rw [← HZ.out]; exact G1.out, HNE.out, GB.out⟩

theorem own_some {w : World} {base : Nat} {v : Value} {l : List Int} (h : OwnI w base v l) (hn : v ≠ .slice none 0 0) :
    ∃ g cap, v = .slice (some ⟨g, 0, none⟩) l.length cap ∧ base ≤ g ∧ g < w.heap.size ∧ IsO w g 2 l := by
  rcases h.split with ⟨rfl, _⟩ | ⟨g, cap, rfl, hg, _, ho⟩
  · exact absurd rfl hn
  · exact ⟨g, cap, rfl, hg, ho.lt, ho⟩
theorem own_news {w : World} {g : Nat} {l : List Int} (h : IsO w g 2 l) : ∀ (j : Nat) (u : Value), (l.map (Value.int .i64))[j]? = some u → w.cell? ((⟨g, 0, none⟩ : Addr).add j) = some u := by
  intro j u hj
  rw [List.getElem?_map] at hj
  cases hl : l[j]? with
  | none => rw [hl] at hj; cases hj
  | some x =>
    rw [hl] at hj
    obtain ⟨hlt, hx⟩ := List.getElem?_eq_some_iff.1 hl
    have hadd : (⟨g, 0, none⟩ : Addr).add j = ⟨g, j, none⟩ := by unfold Addr.add; split <;> simp_all
    rw [hadd, h.cell hlt, hx]
    exact hj
theorem own_cells (l : List Int) : ∀ u ∈ l.map (Value.int .i64), u.oneCell' = true := by
  intro u hu
  obtain ⟨x, _, rfl⟩ := List.mem_map.1 hu
  rfl
theorem OwnI.joined {w : World} {base : Nat} {v : Value} {l p : List Int} (h : w.ownsRow base 2 1 v (l.length + p.length) (l.map (Value.int .i64) ++ p.map (Value.int .i64))) : OwnI w base v (l ++ p) := by
  unfold OwnI
  rw [List.length_append, List.map_append]
  exact h
/-- behind an append of a row of numbers -/
theorem app_row {B base : Nat} {e : TypeId} {w0 w w1 : World} {v : Value} {n size : Nat} {xs : List Value} (hbel : Below B w0 w) (hB : B ≤ w.heap.size) (hBb : B ≤ base)
    (hown : w.ownsRow base e size v n xs) (hgrow : w.grownBy w1 v.ownBlock) : Below B w0 w1 := by
  refine hbel.grown hgrow hB ?_
  intro k hk
  exact Nat.le_trans hBb (hown.lt k hk).1
end Go.Proofs.Ytmkpakhpjgocjaa.Ze
