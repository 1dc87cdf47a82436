/- Texts put together: ZeroWalks, ZeroTop. -/
import Derived.Test.YtmkpakhpjgocjaaFs11
import Derived.Test.YtmkpakhpjgocjaaFs14
import Derived.Test.YtmkpakhpjgocjaaFs15
/- The walks of both ZerosOf. -/
namespace Go.Proofs.Ytmkpakhpjgocjaa.Ze
open Go.RowKit
open Go.Proofs.Ytmkpakhpjgocjaa.Bi (upTo_impl ret_boolB)
open Go.Proofs.Ytmkpakhpjgocjaa.In (Ints OwnI one_newI one_cellI app_one)
open Go.Proofs.Ytmkpakhpjgocjaa.In.Try (infoI2)

theorem OwnI.alloc {w : World} {base : Nat} {v : Value} {l : List Int} (h : OwnI w base v l) (o : Obj) : OwnI (w.alloc o) base v l :=
  h.below ((Below.refl _ _).alloc (Nat.le_refl _) o)

set_option maxRecDepth 100000 in
set_option maxHeartbeats 1000000 in
theorem putZeros_any (l : List Int) (r base : Nat) (v : Value) (w : World) (ho : OwnI w base v l) (hb : base ≤ w.heap.size) (hs : l.length + r ≤ 1048576) :
    Calls Try.prog 105 #[v, .int .i64 r] w fun e w' => ∃ v', e = .returned v' ∧ OwnI w' base v' (l ++ zrun r) ∧ Below base w w' := by
  obtain ⟨i0, hi0, hz0, hz1, hz2⟩ := info_parts infoI2
  have HO := hideZ ho
  obtain ⟨a, cap, rfl, _, _⟩ := ho.ints
  clear ho
  generalize hln : l.length = n at hs HO
  have HLN := hideZ hln
  clear hln
  go_enter Try.func105, Try.ntmps105
  go_wp2_with fail
  go_loopw [0, 1] (fun u m wr => ∃ (l' : List Int) (r' : Nat), m = .int .i64 r' ∧ OwnI wr base u l' ∧ l' ++ zrun r' = l ++ zrun r ∧ l'.length + r' ≤ 1048576 ∧ Below base w wr) (fun _ m _ => (intOf m).toNat)
  case atStart => exact ⟨l, r, rfl, HO.out, rfl, by have := HLN.out; omega, Below.refl _ _⟩
  case round =>
    obtain ⟨l', r', rfl, hown, he, hs', hbel⟩ := hrel
    have G1 := hideZ hown
    have GB := hideZ hbel
    have HE := hideZ he
    have hz := hbel.size
    have HS := hideZ hs'
    have hs2 : r' ≤ 1048576 := by omega
    clear he hbel hs'
    obtain ⟨a', cap', rfl, _, _⟩ := hown.ints
    clear hown
    by_cases h0 : 0 < r'
    · by_cases h1 : r' % 2 = 1
      · have hq : (r' : Int).tmod 2 = 1 := by rw [Int.tmod_eq_emod_of_nonneg (by omega)]; omega
        have hd : ((r' : Int) - 1).tdiv 2 = (((r' - 1) / 2 : Nat) : Int) := by rw [Int.tdiv_eq_ediv_of_nonneg (by omega)]; omega
        have HZ : Hid (l' ++ ([0] ++ zrun ((r' - 1) / 2)) = l ++ zrun r) := by
          unfold Hid
          rw [← HE.out, zrun_odd h1]
          rfl
        go_wp2_with (at_builtin; refine wpList_append_own _ rfl (.tmp 10) (.tmp 11) 23 rfl base 2 i0 (.int .i64 0) 1 8 Try.underlying23 hi0 hz0 hz1 hz2 rfl (by decide) _ _ _ rfl (OwnI.alloc G1.out _) ⟨wr.heap.size, 0, none⟩ 1 1 [.int .i64 0] rfl rfl (one_newI _ _ _) (one_cellI _) (by unfold maxLen; have := HS.out; omega) (by have := HS.out; omega) (by simp; omega) ?_)
        intro v' w5 hown' hgrow _
        have N5 := hideZ (OwnI.snoc hown')
        have b5 := hideZ (app_one GB.out (by omega) (Nat.le_refl _) G1.out hgrow)
        clear hown' hgrow
        go_wp2_with fail
        go_roundw
        case rel => exact ⟨l' ++ [0], (r' - 1) / 2, by go_num, N5.out, by rw [List.append_assoc]; exact HZ.out, by have := HS.out; simp; omega, b5.out⟩
        case measure => simp [intOf]; omega
      · have hq : (r' : Int).tmod 2 = 0 := by rw [Int.tmod_eq_emod_of_nonneg (by omega)]; omega
        have hd : ((r' : Int) - 2).tdiv 2 = (((r' - 2) / 2 : Nat) : Int) := by rw [Int.tdiv_eq_ediv_of_nonneg (by omega)]; omega
        have HZ : Hid (l' ++ ([1] ++ zrun ((r' - 2) / 2)) = l ++ zrun r) := by
          unfold Hid
          rw [← HE.out, zrun_even h0 h1]
          rfl
        go_wp2_with (at_builtin; refine wpList_append_own _ rfl (.tmp 16) (.tmp 17) 23 rfl base 2 i0 (.int .i64 0) 1 8 Try.underlying23 hi0 hz0 hz1 hz2 rfl (by decide) _ _ _ rfl (OwnI.alloc G1.out _) ⟨wr.heap.size, 0, none⟩ 1 1 [.int .i64 1] rfl rfl (one_newI _ _ _) (one_cellI _) (by unfold maxLen; have := HS.out; omega) (by have := HS.out; omega) (by simp; omega) ?_)
        intro v' w5 hown' hgrow _
        have N5 := hideZ (OwnI.snoc hown')
        have b5 := hideZ (app_one GB.out (by omega) (Nat.le_refl _) G1.out hgrow)
        clear hown' hgrow
        go_wp2_with fail
        go_roundw
        case rel => exact ⟨l' ++ [1], (r' - 2) / 2, by go_num, N5.out, by rw [List.append_assoc]; exact HZ.out, by have := HS.out; simp; omega, b5.out⟩
        case measure => simp [intOf]; omega
    · obtain rfl : r' = 0 := by omega
      have HZ : Hid (l' = l ++ zrun r) := by
        unfold Hid
        rw [← HE.out, zrun_zero, List.append_nil]
      go_wp2_with fail
      go_ret
      exact ⟨_, rfl, by rw [← HZ.out]; exact G1.out, GB.out⟩
end Go.Proofs.Ytmkpakhpjgocjaa.Ze

/- What both ZerosOf answer. -/
namespace Go.Proofs.Ytmkpakhpjgocjaa.Ze
open Go.RowKit
open Go.Proofs.Ytmkpakhpjgocjaa.Bi (upTo_impl ret_boolB is_yes is_no)
open Go.Proofs.Ytmkpakhpjgocjaa.In (Ints OwnI one_newI one_cellI app_one)
open Go.Proofs.Ytmkpakhpjgocjaa.In.Try (infoI2)

theorem OwnI.empty (w : World) : OwnI (w.alloc (.cells #[] 2)) w.heap.size (.slice (some ⟨w.heap.size, 0, none⟩) 0 0) [] :=
  ⟨rfl, .inr ⟨w.heap.size, 0, #[], rfl, Nat.le_refl _, heap_alloc_last w _, Nat.le_refl _, by decide, rfl, rfl⟩⟩

set_option maxRecDepth 100000 in
set_option maxHeartbeats 1000000 in
theorem zerosOf_impl (l : List Int) (a : Option Addr) (cap B : Nat) (w : World) (hi : Ints w B a l) (hB : B ≤ w.heap.size) (hn : l.length ≤ 1048576) :
    Calls Try.prog 41 #[.slice a l.length cap] w fun e w' => ∃ v, e = .returned v ∧ OwnI w' w.heap.size v (zerosR l) ∧ Below w.heap.size w w' := by
  obtain ⟨i0, hi0, hz0, hz1, hz2⟩ := info_parts infoI2
  by_cases hlong : 400 < l.length
  · rw [zerosR_no (numsR_long hlong)]
    clear hi
    generalize l.length = n at hlong hn ⊢
    go_enter Try.func41, Try.ntmps41
    go_wp2_with fail
    go_ret
    exact ⟨_, rfl, OwnI.nil _ _, Below.refl _ _⟩
  · have HU := hideZ (upTo_impl l 255 a cap B w hi hn)
    cases hu : upTo l 255 with
    | false =>
      rw [zerosR_no ((numsR_of (by omega)).trans hu)]
      rw [hu] at HU
      clear hi hu
      generalize l.length = n at HU hlong hn ⊢
      have hd : decide (400 < (n : Int)) = false := decide_eq_false (by omega)
      go_enter Try.func41, Try.ntmps41
      go_wp2_with fail
      refine HU.out.mono ?_
      rintro e w' ⟨rfl, hw⟩
      subst w'
      go_wp2_with fail
      go_ret
      exact ⟨_, rfl, OwnI.nil _ _, Below.refl _ _⟩
    | true =>
      rw [zerosR_yes ((numsR_of (by omega)).trans hu)]
      have HUP := hideZ (upTo_yes hu)
      rw [hu] at HU
      have HS := hideZ (hi.mono hB)
      clear hi hu
      obtain ⟨n, hln⟩ : ∃ n, n = l.length := ⟨_, rfl⟩
      have HLN := hideZ hln
      rw [← hln] at HU hlong ⊢
      clear hln hn
      have hd : decide (400 < (n : Int)) = false := decide_eq_false (by omega)
      go_enter Try.func41, Try.ntmps41
      go_wp2_with fail
      refine HU.out.mono ?_
      rintro e w' ⟨rfl, hw⟩
      subst w'
      go_wp2_with fail
      go_loopw [17, 3, 4] (fun i u m wr => ∃ k z : Nat, i = .int .i64 k ∧ m = .int .i64 z ∧ k ≤ n ∧ z = (zst (l.take k)).2 ∧ OwnI wr w.heap.size u (zst (l.take k)).1 ∧ Below w.heap.size w wr) (fun i _ _ _ => n - (intOf i).toNat)
      case atStart => exact ⟨0, 0, rfl, rfl, Nat.zero_le _, rfl, OwnI.nil _ _, Below.refl _ _⟩
      case round =>
        obtain ⟨k, z, rfl, rfl, hk, hz, hown, hbel⟩ := hrel
        have hzl := zst_len (l.take k)
        rw [List.length_take] at hzl
        have hzk : (zst (l.take k)).1.length + z ≤ k := by omega
        have G1 := hideZ hown
        have GB := hideZ hbel
        have HZ := hideZ hz
        have hsz := hbel.size
        clear hzl
        obtain ⟨a', cap', rfl, _, _⟩ := hown.ints
        generalize hnl : (zst (l.take k)).1.length = nl at hzk G1
        have HNL := hideZ hnl
        clear hz hown hbel hnl
        by_cases hlt : k < n
        · have hkl : k < l.length := by rw [← HLN.out]; exact hlt
          obtain ⟨b, off, rfl, hb, hc⟩ := (HS.out.below GB.out).some (by omega)
          have ci := hc k hkl
          have hx255 := HUP.out _ (List.getElem_mem hkl)
          obtain ⟨x, hx⟩ : ∃ x, x = l[k] := ⟨_, rfl⟩
          have HX := hideZ hx
          rw [← hx] at ci hx255
          clear hc hx
          by_cases h0 : x = 0
          · have HZ1 : Hid (zst (l.take (k + 1)) = ((zst (l.take k)).1, z + 1)) := by
              unfold Hid
              rw [zst_zero hkl (by rw [← HX.out]; exact h0), HZ.out]
            have hbx : (x == 0) = true := beq_iff_eq.2 h0
            clear h0
            go_wp2_with fail
            go_roundw
            case rel => exact ⟨k + 1, z + 1, by go_num, by go_num, by omega, by rw [HZ1.out], by rw [HZ1.out]; exact G1.out, GB.out⟩
            case measure => simp [intOf]; omega
          · have HZ1 : Hid (zst (l.take (k + 1)) = ((zst (l.take k)).1 ++ zrun z ++ [x + 1], 0)) := by
              unfold Hid
              rw [zst_other hkl (by rw [← HX.out]; exact h0), HZ.out, HX.out]
            have hbx : (x == 0) = false := beq_eq_false_iff_ne.2 h0
            have HPZ := hideZ (putZeros_any (zst (l.take k)).1 z w.heap.size (.slice a' nl cap') wr G1.out (by omega) (by have := HNL.out; omega))
            have hrl := zrun_len z
            clear h0
            go_wp2_with fail
            refine HPZ.out.mono ?_
            rintro e w4 ⟨v4, rfl, hown4, hbel4⟩
            have HL4 : Hid (((zst (l.take k)).1 ++ zrun z).length ≤ 400) := by
              unfold Hid
              rw [List.length_append, HNL.out]
              omega
            obtain ⟨l4, hl4⟩ : ∃ l4, l4 = (zst (l.take k)).1 ++ zrun z := ⟨_, rfl⟩
            rw [← hl4] at hown4 HZ1 HL4
            have G4 := hideZ hown4
            have B4 := hideZ (GB.out.trans hbel4)
            have z4 := hbel4.size
            obtain ⟨a4, cap4, rfl, _, _⟩ := hown4.ints
            clear hown4 hbel4 hl4
            go_wp2_with (at_builtin; refine wpList_append_own _ rfl (.tmp 27) (.tmp 30) 23 rfl w.heap.size 2 i0 (.int .i64 0) 1 8 Try.underlying23 hi0 hz0 hz1 hz2 rfl (by decide) _ _ _ rfl (OwnI.alloc G4.out _) ⟨w4.heap.size, 0, none⟩ 1 1 [.int .i64 (x + 1)] rfl rfl (one_newI _ _ _) (one_cellI _) (by unfold maxLen; have := HL4.out; omega) (by have := HL4.out; omega) (by simp; omega) ?_)
            intro v' w5 hown' hgrow _
            have N5 := hideZ (OwnI.snoc hown')
            have b5 := hideZ (app_one B4.out (by omega) (Nat.le_refl _) G4.out hgrow)
            clear hown' hgrow
            go_wp2_with fail
            go_roundw
            case rel => exact ⟨k + 1, 0, by go_num, rfl, by omega, by rw [HZ1.out], by rw [HZ1.out]; exact N5.out, b5.out⟩
            case measure => simp [intOf]; omega
        · have hkn : k = l.length := by have := HLN.out; omega
          have HT : Hid (l.take k = l) := by
            unfold Hid
            rw [hkn, List.take_length]
          have HPZ := hideZ (putZeros_any (zst (l.take k)).1 z w.heap.size (.slice a' nl cap') wr G1.out (by omega) (by have := HNL.out; omega))
          rw [HT.out] at HPZ HZ
          rw [HZ.out] at HPZ ⊢
          clear hkn HZ
          go_wp2_with fail
          refine HPZ.out.mono ?_
          rintro e w4 ⟨v4, rfl, hown4, hbel4⟩
          have G4 := hideZ hown4
          have B4 := hideZ (GB.out.trans hbel4)
          clear hown4 hbel4
          go_wp2_with fail
          go_ret
          exact ⟨_, rfl, G4.out, B4.out⟩
end Go.Proofs.Ytmkpakhpjgocjaa.Ze
