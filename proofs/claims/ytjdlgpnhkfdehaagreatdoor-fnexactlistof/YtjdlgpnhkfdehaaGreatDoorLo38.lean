/- Texts put together: ZeroWalks, ZeroTop, ZeroSpec, OrdImpl, FrontRow. -/
import Derived.Test.YtjdlgpnhkfdehaaGreatDoorLo24
import Derived.Test.YtjdlgpnhkfdehaaGreatDoorLo37
import Derived.Test.YtjdlgpnhkfdehaaGreatDoorLo30
import Derived.Test.YtjdlgpnhkfdehaaGreatDoorLo31
import Derived.Test.YtjdlgpnhkfdehaaGreatDoorLo2
import Derived.Test.YtjdlgpnhkfdehaaGreatDoorLo14
import Derived.Test.YtjdlgpnhkfdehaaGreatDoorChecked
import Derived.WalkSpells
import Derived.WalkLawsBesides
import Derived.BigRegion
import Derived.BigQuiet
import Derived.Deep.QuietTactic
import Derived.Laws.CopyOwn
/- The walks of both ZerosOf. -/
namespace Go.Proofs.YtjdlgpnhkfdehaaGreatDoor.Ze
open Go.RowKit
open Go.Proofs.YtjdlgpnhkfdehaaGreatDoor.Bi (upTo_impl ret_boolB)
open Go.Proofs.YtjdlgpnhkfdehaaGreatDoor.In (Ints OwnI one_newI one_cellI app_one)
open Go.Proofs.YtjdlgpnhkfdehaaGreatDoor.In.Tryz (infoI2)
theorem OwnI.alloc {w : World} {base : Nat} {v : Value} {l : List Int} (h : OwnI w base v l) (o : Obj) : OwnI (w.alloc o) base v l :=
  h.below ((Below.refl _ _).alloc (Nat.le_refl _) o)
set_option maxRecDepth 100000 in
set_option maxHeartbeats 1000000 in
theorem putZeros_any (l : List Int) (r base : Nat) (v : Value) (w : World) (ho : OwnI w base v l) (hb : base ≤ w.heap.size) (hs : l.length + r ≤ 1048576) :
    Calls Tryz.prog 156 #[v, .int .i64 r] w fun e w' => ∃ v', e = .returned v' ∧ OwnI w' base v' (l ++ zrun r) ∧ Below base w w' := by
  obtain ⟨i0, hi0, hz0, hz1, hz2⟩ := info_parts infoI2
  have HO := hideZ ho
  obtain ⟨a, cap, rfl, _, _⟩ := ho.ints
  clear ho
  generalize hln : l.length = n at hs HO
  have HLN := hideZ hln
  clear hln
  go_enter Tryz.func156, Tryz.ntmps156
  go_wp2_with fail
  go_loopw [0, 1] (fun u m wr => ∃ (l' : List Int) (r' : Nat), m = .int .i64 r' ∧ OwnI wr base u l' ∧ l' ++ zrun r' = l ++ zrun r ∧ l'.length + r' ≤ 1048576 ∧ Below base w wr) (fun _ m _ => (intOf m).toNat)
  case atStart => exact ⟨l, r, rfl, HO.out, rfl, by have := HLN.out; omega, Below.refl _ _⟩
  case round =>
    obtain ⟨l', r', rfl, hown, he, hs', hbel⟩ := hrel
    have G1 := hideZ hown
    have GB := hideZ hbel
    have HE := hideZ he
    have hz := hbel.size
    have HS := hideZ hs'
    have hs2 : r' ≤ 1048576 := by omega
    clear he hbel hs'
    obtain ⟨a', cap', rfl, _, _⟩ := hown.ints
    clear hown
    by_cases h0 : 0 < r'
    · by_cases h1 : r' % 2 = 1
      · have hq : (r' : Int).tmod 2 = 1 := by rw [Int.tmod_eq_emod_of_nonneg (by omega)]; omega
        have hd : ((r' : Int) - 1).tdiv 2 = (((r' - 1) / 2 : Nat) : Int) := by rw [Int.tdiv_eq_ediv_of_nonneg (by omega)]; omega
        have HZ : Hid (l' ++ ([0] ++ zrun ((r' - 1) / 2)) = l ++ zrun r) := by
          unfold Hid
          rw [← HE.out, zrun_odd h1]
          rfl
        go_wp2_with (at_builtin; refine wpList_append_own _ rfl (.tmp 10) (.tmp 11) 97 rfl base 2 i0 (.int .i64 0) 1 8 Tryz.underlying97 hi0 hz0 hz1 hz2 rfl (by decide) _ _ _ rfl (OwnI.alloc G1.out _) ⟨wr.heap.size, 0, none⟩ 1 1 [.int .i64 0] rfl rfl (one_newI _ _ _) (one_cellI _) (by unfold maxLen; have := HS.out; omega) (by have := HS.out; omega) (by simp; omega) ?_)
        intro v' w5 hown' hgrow _
        have N5 := hideZ (OwnI.snoc hown')
        have b5 := hideZ (app_one GB.out (by omega) (Nat.le_refl _) G1.out hgrow)
        clear hown' hgrow
        go_wp2_with fail
        go_roundw
        case rel => exact ⟨l' ++ [0], (r' - 1) / 2, by go_num, N5.out, by rw [List.append_assoc]; exact HZ.out, by have := HS.out; simp; omega, b5.out⟩
        case measure => simp [intOf]; omega
      · have hq : (r' : Int).tmod 2 = 0 := by rw [Int.tmod_eq_emod_of_nonneg (by omega)]; omega
        have hd : ((r' : Int) - 2).tdiv 2 = (((r' - 2) / 2 : Nat) : Int) := by rw [Int.tdiv_eq_ediv_of_nonneg (by omega)]; omega
        have HZ : Hid (l' ++ ([1] ++ zrun ((r' - 2) / 2)) = l ++ zrun r) := by
          unfold Hid
          rw [← HE.out, zrun_even h0 h1]
          rfl
        go_wp2_with (at_builtin; refine wpList_append_own _ rfl (.tmp 16) (.tmp 17) 97 rfl base 2 i0 (.int .i64 0) 1 8 Tryz.underlying97 hi0 hz0 hz1 hz2 rfl (by decide) _ _ _ rfl (OwnI.alloc G1.out _) ⟨wr.heap.size, 0, none⟩ 1 1 [.int .i64 1] rfl rfl (one_newI _ _ _) (one_cellI _) (by unfold maxLen; have := HS.out; omega) (by have := HS.out; omega) (by simp; omega) ?_)
        intro v' w5 hown' hgrow _
        have N5 := hideZ (OwnI.snoc hown')
        have b5 := hideZ (app_one GB.out (by omega) (Nat.le_refl _) G1.out hgrow)
        clear hown' hgrow
        go_wp2_with fail
        go_roundw
        case rel => exact ⟨l' ++ [1], (r' - 2) / 2, by go_num, N5.out, by rw [List.append_assoc]; exact HZ.out, by have := HS.out; simp; omega, b5.out⟩
        case measure => simp [intOf]; omega
    · obtain rfl : r' = 0 := by omega
      have HZ : Hid (l' = l ++ zrun r) := by
        unfold Hid
        rw [← HE.out, zrun_zero, List.append_nil]
      go_wp2_with fail
      go_ret
      exact ⟨_, rfl, by rw [← HZ.out]; exact G1.out, GB.out⟩
end Go.Proofs.YtjdlgpnhkfdehaaGreatDoor.Ze


/- What both ZerosOf answer. -/
namespace Go.Proofs.YtjdlgpnhkfdehaaGreatDoor.Ze
open Go.RowKit
open Go.Proofs.YtjdlgpnhkfdehaaGreatDoor.Bi (upTo_impl ret_boolB is_yes is_no)
open Go.Proofs.YtjdlgpnhkfdehaaGreatDoor.In (Ints OwnI one_newI one_cellI app_one)
open Go.Proofs.YtjdlgpnhkfdehaaGreatDoor.In.Tryz (infoI2)
theorem OwnI.empty (w : World) : OwnI (w.alloc (.cells #[] 2)) w.heap.size (.slice (some ⟨w.heap.size, 0, none⟩) 0 0) [] :=
  ⟨rfl, .inr ⟨w.heap.size, 0, #[], rfl, Nat.le_refl _, heap_alloc_last w _, Nat.le_refl _, by decide, rfl, rfl⟩⟩
set_option maxRecDepth 100000 in
set_option maxHeartbeats 1000000 in
theorem zerosOf_impl (l : List Int) (a : Option Addr) (cap B : Nat) (w : World) (hi : Ints w B a l) (hB : B ≤ w.heap.size) (hn : l.length ≤ 1048576) :
    Calls Tryz.prog 106 #[.slice a l.length cap] w fun e w' => ∃ v, e = .returned v ∧ OwnI w' w.heap.size v (zerosR l) ∧ Below w.heap.size w w' := by
  obtain ⟨i0, hi0, hz0, hz1, hz2⟩ := info_parts infoI2
  by_cases hlong : 400 < l.length
  · rw [zerosR_no (numsR_long hlong)]
    clear hi
    generalize l.length = n at hlong hn ⊢
    go_enter Tryz.func106, Tryz.ntmps106
    go_wp2_with fail
    go_ret
    exact ⟨_, rfl, OwnI.nil _ _, Below.refl _ _⟩
  · have HU := hideZ (upTo_impl l 255 a cap B w hi hn)
    cases hu : upTo l 255 with
    | false =>
      rw [zerosR_no ((numsR_of (by omega)).trans hu)]
      rw [hu] at HU
      clear hi hu
      generalize l.length = n at HU hlong hn ⊢
      have hd : decide (400 < (n : Int)) = false := decide_eq_false (by omega)
      go_enter Tryz.func106, Tryz.ntmps106
      go_wp2_with fail
      refine HU.out.mono ?_
      rintro e w' ⟨rfl, hw⟩
      subst w'
      go_wp2_with fail
      go_ret
      exact ⟨_, rfl, OwnI.nil _ _, Below.refl _ _⟩
    | true =>
      rw [zerosR_yes ((numsR_of (by omega)).trans hu)]
      have HUP := hideZ (upTo_yes hu)
      rw [hu] at HU
      have HS := hideZ (hi.mono hB)
      clear hi hu
      obtain ⟨n, hln⟩ : ∃ n, n = l.length := ⟨_, rfl⟩
      have HLN := hideZ hln
      rw [← hln] at HU hlong ⊢
      clear hln hn
      have hd : decide (400 < (n : Int)) = false := decide_eq_false (by omega)
      go_enter Tryz.func106, Tryz.ntmps106
      go_wp2_with fail
      refine HU.out.mono ?_
      rintro e w' ⟨rfl, hw⟩
      subst w'
      go_wp2_with fail
      go_loopw [17, 3, 4] (fun i u m wr => ∃ k z : Nat, i = .int .i64 k ∧ m = .int .i64 z ∧ k ≤ n ∧ z = (zst (l.take k)).2 ∧ OwnI wr w.heap.size u (zst (l.take k)).1 ∧ Below w.heap.size w wr) (fun i _ _ _ => n - (intOf i).toNat)
      case atStart => exact ⟨0, 0, rfl, rfl, Nat.zero_le _, rfl, OwnI.nil _ _, Below.refl _ _⟩
      case round =>
        obtain ⟨k, z, rfl, rfl, hk, hz, hown, hbel⟩ := hrel
        have hzl := zst_len (l.take k)
        rw [List.length_take] at hzl
        have hzk : (zst (l.take k)).1.length + z ≤ k := by omega
        have G1 := hideZ hown
        have GB := hideZ hbel
        have HZ := hideZ hz
        have hsz := hbel.size
        clear hzl
        obtain ⟨a', cap', rfl, _, _⟩ := hown.ints
        generalize hnl : (zst (l.take k)).1.length = nl at hzk G1
        have HNL := hideZ hnl
        clear hz hown hbel hnl
        by_cases hlt : k < n
        · have hkl : k < l.length := by rw [← HLN.out]; exact hlt
          obtain ⟨b, off, rfl, hb, hc⟩ := (HS.out.below GB.out).some (by omega)
          have ci := hc k hkl
          have hx255 := HUP.out _ (List.getElem_mem hkl)
          obtain ⟨x, hx⟩ : ∃ x, x = l[k] := ⟨_, rfl⟩
          have HX := hideZ hx
          rw [← hx] at ci hx255
          clear hc hx
          by_cases h0 : x = 0
          · have HZ1 : Hid (zst (l.take (k + 1)) = ((zst (l.take k)).1, z + 1)) := by
              unfold Hid
              rw [zst_zero hkl (by rw [← HX.out]; exact h0), HZ.out]
            have hbx : (x == 0) = true := beq_iff_eq.2 h0
            clear h0
            go_wp2_with fail
            go_roundw
            case rel => exact ⟨k + 1, z + 1, by go_num, by go_num, by omega, by rw [HZ1.out], by rw [HZ1.out]; exact G1.out, GB.out⟩
            case measure => simp [intOf]; omega
          · have HZ1 : Hid (zst (l.take (k + 1)) = ((zst (l.take k)).1 ++ zrun z ++ [x + 1], 0)) := by
              unfold Hid
              rw [zst_other hkl (by rw [← HX.out]; exact h0), HZ.out, HX.out]
            have hbx : (x == 0) = false := beq_eq_false_iff_ne.2 h0
            have HPZ := hideZ (putZeros_any (zst (l.take k)).1 z w.heap.size (.slice a' nl cap') wr G1.out (by omega) (by have := HNL.out; omega))
            have hrl := zrun_len z
            clear h0
            go_wp2_with fail
            refine HPZ.out.mono ?_
            rintro e w4 ⟨v4, rfl, hown4, hbel4⟩
            have HL4 : Hid (((zst (l.take k)).1 ++ zrun z).length ≤ 400) := by
              unfold Hid
              rw [List.length_append, HNL.out]
              omega
            obtain ⟨l4, hl4⟩ : ∃ l4, l4 = (zst (l.take k)).1 ++ zrun z := ⟨_, rfl⟩
            rw [← hl4] at hown4 HZ1 HL4
            have G4 := hideZ hown4
            have B4 := hideZ (GB.out.trans hbel4)
            have z4 := hbel4.size
            obtain ⟨a4, cap4, rfl, _, _⟩ := hown4.ints
            clear hown4 hbel4 hl4
            go_wp2_with (at_builtin; refine wpList_append_own _ rfl (.tmp 27) (.tmp 30) 97 rfl w.heap.size 2 i0 (.int .i64 0) 1 8 Tryz.underlying97 hi0 hz0 hz1 hz2 rfl (by decide) _ _ _ rfl (OwnI.alloc G4.out _) ⟨w4.heap.size, 0, none⟩ 1 1 [.int .i64 (x + 1)] rfl rfl (one_newI _ _ _) (one_cellI _) (by unfold maxLen; have := HL4.out; omega) (by have := HL4.out; omega) (by simp; omega) ?_)
            intro v' w5 hown' hgrow _
            have N5 := hideZ (OwnI.snoc hown')
            have b5 := hideZ (app_one B4.out (by omega) (Nat.le_refl _) G4.out hgrow)
            clear hown' hgrow
            go_wp2_with fail
            go_roundw
            case rel => exact ⟨k + 1, 0, by go_num, rfl, by omega, by rw [HZ1.out], by rw [HZ1.out]; exact N5.out, b5.out⟩
            case measure => simp [intOf]; omega
        · have hkn : k = l.length := by have := HLN.out; omega
          have HT : Hid (l.take k = l) := by
            unfold Hid
            rw [hkn, List.take_length]
          have HPZ := hideZ (putZeros_any (zst (l.take k)).1 z w.heap.size (.slice a' nl cap') wr G1.out (by omega) (by have := HNL.out; omega))
          rw [HT.out] at HPZ HZ
          rw [HZ.out] at HPZ ⊢
          clear hkn HZ
          go_wp2_with fail
          refine HPZ.out.mono ?_
          rintro e w4 ⟨v4, rfl, hown4, hbel4⟩
          have G4 := hideZ hown4
          have B4 := hideZ (GB.out.trans hbel4)
          clear hown4 hbel4
          go_wp2_with fail
          go_ret
          exact ⟨_, rfl, G4.out, B4.out⟩
end Go.Proofs.YtjdlgpnhkfdehaaGreatDoor.Ze


/- What the specification's ZerosOf answers. -/
namespace Go.Proofs.YtjdlgpnhkfdehaaGreatDoor.Ze
open Go.RowKit
open Go.Proofs.YtjdlgpnhkfdehaaGreatDoor.Bi (ret_boolB is_yes is_no)
open Go.Proofs.YtjdlgpnhkfdehaaGreatDoor.In (Ints OwnI IsO one_newI one_cellI app_one)
open Go.Proofs.YtjdlgpnhkfdehaaGreatDoor.In.Tryz (infoI2)
set_option maxHeartbeats 1000000 in
theorem nums_spec (l : List Int) (m : Int) (a : Option Addr) (cap B : Nat) (w : World) (hi : Ints w B a l) (hn : l.length ≤ 1048576) :
    Calls Tryz.prog 181 #[.slice a l.length cap, .int .i64 m] w fun e w' => e = .returned (.bool (numsR l m)) ∧ w' = w := by
  have HS := hideZ hi
  clear hi
  obtain ⟨n, hln⟩ : ∃ n, n = l.length := ⟨_, rfl⟩
  have HLN := hideZ hln
  rw [← hln] at hn ⊢
  clear hln
  go_enter Tryz.func181, Tryz.ntmps181
  go_wp2_with fail
  go_loopw [5] (fun i wr => ∃ k : Nat, i = .int .i64 k ∧ k ≤ n ∧ (∀ j (hj : j < l.length), j < k → 0 ≤ l[j] ∧ l[j] ≤ m) ∧ wr = w) (fun i _ => n - (intOf i).toNat)
  case atStart => exact ⟨0, rfl, Nat.zero_le _, fun j hj h0 => absurd h0 (Nat.not_lt_zero j), rfl⟩
  case round =>
    obtain ⟨k, rfl, hk, hall, hw⟩ := hrel
    subst hw
    have HA := hideZ hall
    clear hall
    by_cases hlt : k < n
    · have hkl : k < l.length := by rw [← HLN.out]; exact hlt
      obtain ⟨b, off, rfl, hb, hc⟩ := HS.out.some (by omega)
      have ci := hc k hkl
      obtain ⟨x, hx⟩ : ∃ x, x = l[k] := ⟨_, rfl⟩
      have HX := hideZ hx
      rw [← hx] at ci
      clear hc hx
      by_cases h0 : x < 0 ∨ m < x
      · have HE : Hid (numsR l m = false) := by
          have := upTo_bad (m := m) hkl (by rw [← HX.out]; exact h0)
          unfold Hid numsR
          rw [this, Bool.and_false]
        have HI := hideZ (is_no x 0 m wr h0)
        clear h0
        go_wp2_with fail
        refine HI.out.mono ?_
        rintro e w' ⟨rfl, hw⟩
        subst w'
        go_wp2_with fail
        go_ret
        exact ⟨ret_boolB HE.out.symm, rfl⟩
      · have HI := hideZ (is_yes x 0 m wr (by omega) (by omega))
        have HX2 : Hid (0 ≤ x ∧ x ≤ m) := by
          unfold Hid
          omega
        clear h0
        go_wp2_with fail
        refine HI.out.mono ?_
        rintro e w' ⟨rfl, hw⟩
        subst w'
        go_wp2_with fail
        go_roundw
        case rel =>
          refine ⟨k + 1, by go_num, by omega, fun j hj hjk => ?_, trivial⟩
          by_cases e : j = k
          · subst e
            rw [← HX.out]
            exact HX2.out
          · exact HA.out j hj (by omega)
        case measure => simp [intOf]; omega
    · have HU : Hid (upTo l m = true) := upTo_of (fun x hx => by
        obtain ⟨j, hj, rfl⟩ := List.getElem_of_mem hx
        exact HA.out j hj (by have := HLN.out; omega))
      by_cases h4 : n ≤ 400
      · have HE : Hid (numsR l m = true) := by
          unfold Hid
          rw [numsR_of (by have := HLN.out; omega)]
          exact HU.out
        have h4' : (n : Int) ≤ 400 := by omega
        go_wp2_with fail
        go_ret
        exact ⟨ret_boolB HE.out.symm, rfl⟩
      · have HE : Hid (numsR l m = false) := numsR_long (by have := HLN.out; omega)
        have h4' : decide ((n : Int) ≤ 400) = false := decide_eq_false (by omega)
        go_wp2_with fail
        go_ret
        exact ⟨ret_boolB HE.out.symm, rfl⟩
set_option maxRecDepth 100000 in
set_option maxHeartbeats 1000000 in
theorem run_spec (r : Nat) (w : World) (hs : r ≤ 1048576) :
    Calls Tryz.prog 219 #[.int .i64 r] w fun e w' => ∃ v, e = .returned v ∧ OwnI w' w.heap.size v (zrun r) ∧ v ≠ .slice none 0 0 ∧ Below w.heap.size w w' := by
  obtain ⟨i0, hi0, hz0, hz1, hz2⟩ := info_parts infoI2
  have HW := hideZ (OwnI.empty w)
  go_enter Tryz.func219, Tryz.ntmps219
  go_wp2_with fail
  go_loopw [3, 0] (fun u m wr => ∃ (l' : List Int) (r' : Nat), m = .int .i64 r' ∧ OwnI wr w.heap.size u l' ∧ u ≠ .slice none 0 0 ∧ l' ++ zrun r' = zrun r ∧ l'.length + r' ≤ 1048576 ∧ Below w.heap.size w wr) (fun _ m _ => (intOf m).toNat)
  case atStart => exact ⟨[], r, rfl, HW.out, by simp, rfl, by simpa using hs, (Below.refl _ _).alloc (Nat.le_refl _) _⟩
  case round =>
    obtain ⟨l', r', rfl, hown, hne, he, hs', hbel⟩ := hrel
    have G1 := hideZ hown
    have GB := hideZ hbel
    have HE := hideZ he
    have hz := hbel.size
    have HS := hideZ hs'
    have hs2 : r' ≤ 1048576 := by omega
    clear he hbel hs'
    obtain ⟨a', cap', rfl, _, _⟩ := hown.ints
    have HNE := hideZ hne
    clear hown hne
    by_cases h0 : 0 < r'
    · by_cases h1 : r' % 2 = 1
      · have hq : (r' : Int).tmod 2 = 1 := by rw [Int.tmod_eq_emod_of_nonneg (by omega)]; omega
        have hd : ((r' : Int) - 1).tdiv 2 = (((r' - 1) / 2 : Nat) : Int) := by rw [Int.tdiv_eq_ediv_of_nonneg (by omega)]; omega
        have HZ : Hid (l' ++ ([0] ++ zrun ((r' - 1) / 2)) = zrun r) := by
          unfold Hid
          rw [← HE.out, zrun_odd h1]
          rfl
        go_wp2_with (at_builtin; refine wpList_append_own _ rfl (.tmp 10) (.tmp 11) 97 rfl w.heap.size 2 i0 (.int .i64 0) 1 8 Tryz.underlying97 hi0 hz0 hz1 hz2 rfl (by decide) _ _ _ rfl (OwnI.alloc G1.out _) ⟨wr.heap.size, 0, none⟩ 1 1 [.int .i64 0] rfl rfl (one_newI _ _ _) (one_cellI _) (by unfold maxLen; have := HS.out; omega) (by have := HS.out; omega) (by simp; omega) ?_)
        intro v' w5 hown' hgrow hnn
        have N5 := hideZ (OwnI.snoc hown')
        have b5 := hideZ (app_one GB.out (by omega) (Nat.le_refl _) G1.out hgrow)
        have HN5 : Hid (v' ≠ .slice none 0 0) := hnn
        clear hown' hgrow hnn
        go_wp2_with fail
        go_roundw
        case rel => exact ⟨l' ++ [0], (r' - 1) / 2, by go_num, N5.out, HN5.out, by rw [List.append_assoc]; exact HZ.out, by have := HS.out; simp; omega, b5.out⟩
        case measure => simp [intOf]; omega
      · have hq : (r' : Int).tmod 2 = 0 := by rw [Int.tmod_eq_emod_of_nonneg (by omega)]; omega
        have hd : ((r' : Int) - 2).tdiv 2 = (((r' - 2) / 2 : Nat) : Int) := by rw [Int.tdiv_eq_ediv_of_nonneg (by omega)]; omega
        have HZ : Hid (l' ++ ([1] ++ zrun ((r' - 2) / 2)) = zrun r) := by
          unfold Hid
          rw [← HE.out, zrun_even h0 h1]
          rfl
        go_wp2_with (at_builtin; refine wpList_append_own _ rfl (.tmp 16) (.tmp 17) 97 rfl w.heap.size 2 i0 (.int .i64 0) 1 8 Tryz.underlying97 hi0 hz0 hz1 hz2 rfl (by decide) _ _ _ rfl (OwnI.alloc G1.out _) ⟨wr.heap.size, 0, none⟩ 1 1 [.int .i64 1] rfl rfl (one_newI _ _ _) (one_cellI _) (by unfold maxLen; have := HS.out; omega) (by have := HS.out; omega) (by simp; omega) ?_)
        intro v' w5 hown' hgrow hnn
        have N5 := hideZ (OwnI.snoc hown')
        have b5 := hideZ (app_one GB.out (by omega) (Nat.le_refl _) G1.out hgrow)
        have HN5 : Hid (v' ≠ .slice none 0 0) := hnn
        clear hown' hgrow hnn
        go_wp2_with fail
        go_roundw
        case rel => exact ⟨l' ++ [1], (r' - 2) / 2, by go_num, N5.out, HN5.out, by rw [List.append_assoc]; exact HZ.out, by have := HS.out; simp; omega, b5.out⟩
        case measure => simp [intOf]; omega
    · obtain rfl : r' = 0 := by omega
      have HZ : Hid (l' = zrun r) := by
        unfold Hid
        rw [← HE.out, zrun_zero, List.append_nil]
      go_wp2_with fail
      go_ret
      exact ⟨_, rfl, by rw [← HZ.out]; exact G1.out, HNE.out, GB.out⟩
theorem own_some {w : World} {base : Nat} {v : Value} {l : List Int} (h : OwnI w base v l) (hn : v ≠ .slice none 0 0) :
    ∃ g cap, v = .slice (some ⟨g, 0, none⟩) l.length cap ∧ base ≤ g ∧ g < w.heap.size ∧ IsO w g 2 l := by
  rcases h.split with ⟨rfl, _⟩ | ⟨g, cap, rfl, hg, _, ho⟩
  · exact absurd rfl hn
  · exact ⟨g, cap, rfl, hg, ho.lt, ho⟩
theorem own_news {w : World} {g : Nat} {l : List Int} (h : IsO w g 2 l) : ∀ (j : Nat) (u : Value), (l.map (Value.int .i64))[j]? = some u → w.cell? ((⟨g, 0, none⟩ : Addr).add j) = some u := by
  intro j u hj
  rw [List.getElem?_map] at hj
  cases hl : l[j]? with
  | none => rw [hl] at hj; cases hj
  | some x =>
    rw [hl] at hj
    obtain ⟨hlt, hx⟩ := List.getElem?_eq_some_iff.1 hl
    have hadd : (⟨g, 0, none⟩ : Addr).add j = ⟨g, j, none⟩ := by unfold Addr.add; split <;> simp_all
    rw [hadd, h.cell hlt, hx]
    exact hj
theorem own_cells (l : List Int) : ∀ u ∈ l.map (Value.int .i64), u.oneCell' = true := by
  intro u hu
  obtain ⟨x, _, rfl⟩ := List.mem_map.1 hu
  rfl
theorem OwnI.joined {w : World} {base : Nat} {v : Value} {l p : List Int} (h : w.ownsRow base 2 1 v (l.length + p.length) (l.map (Value.int .i64) ++ p.map (Value.int .i64))) : OwnI w base v (l ++ p) := by
  unfold OwnI
  rw [List.length_append, List.map_append]
  exact h
theorem app_row {B base : Nat} {e : TypeId} {w0 w w1 : World} {v : Value} {n size : Nat} {xs : List Value} (hbel : Below B w0 w) (hB : B ≤ w.heap.size) (hBb : B ≤ base)
    (hown : w.ownsRow base e size v n xs) (hgrow : w.grownBy w1 v.ownBlock) : Below B w0 w1 := by
  refine hbel.grown hgrow hB ?_
  intro k hk
  exact Nat.le_trans hBb (hown.lt k hk).1
end Go.Proofs.YtjdlgpnhkfdehaaGreatDoor.Ze


/- What the program's OrderOf answers. -/
namespace Go.Proofs.YtjdlgpnhkfdehaaGreatDoor.So
open Go.RowKit Go.Sort Go.Proofs
open Go.Proofs.YtjdlgpnhkfdehaaGreatDoor.In (OwnI one_newI one_cellI)
open Go.Proofs.YtjdlgpnhkfdehaaGreatDoor.In.Tryz (infoI2)
end Go.Proofs.YtjdlgpnhkfdehaaGreatDoor.So


/- The row of all bytes in memory: how the program makes it, and brings a byte to its front. -/
namespace Go.Proofs.YtjdlgpnhkfdehaaGreatDoor.Fr
open Go.RowKit
open Go.Proofs.YtjdlgpnhkfdehaaGreatDoor.Sh (IsB rowF upd rowF_size rowF_get rowF_one rowF_congr results_row below_row row_size upd_same upd_other)
open Go.Proofs.YtjdlgpnhkfdehaaGreatDoor.Ze (hideZ)
open Go.Proofs.YtjdlgpnhkfdehaaGreatDoor.St (Aft)
theorem Tryz.zeroA166 : (Tryz.prog.info? 166).bind (·.zero) = some (.agg (rowF .u8 256 fun _ => 0)) := by kernel_rfl
theorem Tryz.sizeA166 : (Tryz.prog.info? 166).map (·.size) = some 256 := by kernel_rfl
theorem Tryz.sizeB5 : (Tryz.prog.info? 5).map (·.size) = some 1 := by kernel_rfl
theorem wpList_alloc_row {P : Program} {w : World} {ops : Array Oper} {rest : List Oper} {a : Act} {Q : Exit → Act → World → Prop} {d : Tmp} {ty tt : TypeId} {pos : String} {af : Array Edge}
    {k : IntKind} {n : Nat} (hz : (P.info? ty).bind (·.zero) = some (.agg (rowF k n fun _ => 0)))
    (h : ∀ w', IsB w' w.heap.size ty k n (fun _ => 0) → (∀ B, B ≤ w.heap.size → Below B w w') → w'.heap.size = w.heap.size + 1 → (∀ j, j < w.heap.size → w'.heap[j]? = w.heap[j]?) → wpList P ops Q rest (a.put (some d) (.pointer (some ⟨w.heap.size, 0, none⟩))) w') :
    wpList P ops Q (⟨some d, .alloc ty, tt, pos, af, none⟩ :: rest) a w := by
  refine wpList_plain rfl fun K hK => ?_
  obtain ⟨i, hi, hzi⟩ : ∃ i, P.info? ty = some i ∧ i.zero = some (.agg (rowF k n fun _ => 0)) := by
    cases hi : P.info? ty with
    | none => rw [hi] at hz; cases hz
    | some i => exact ⟨i, rfl, by rw [hi] at hz; exact hz⟩
  have hl : (Instr.alloc ty true (.tuple #[])).run P w = .ok (.pointer (some ⟨w.heap.size, 0, none⟩)) (w.alloc (.cells (rowF k n fun _ => 0) ty)) := by
    simp [Instr.alloc, zeroValue, typeInfo, hi, hzi, newVar, newRow, Value.cells]
  unfold Oper.wp
  simp [execOp, hl, Result.andThen]
  exact hK _ _ (h _ (IsB.new w ty k n _) (fun B hB => (Below.refl B w).alloc hB _) (by simp) (fun j hj => Below.heap_alloc w _ j hj))
def copyF (f : Nat → Int) (p : Nat) : Nat → Int := fun j => if j = 0 then f 0 else if j ≤ p then f (j - 1) else f j
theorem copy_front (f : Nat → Int) (p j : Nat) : upd (copyF f p) 0 (f p) j = front f p j := by
  unfold upd copyF front
  by_cases h : j = 0
  · rw [if_pos h, if_pos h]
  · rw [if_neg h, if_neg h, if_neg h]
theorem copy_row (f : Nat → Int) (p : Nat) (hp : p < 256) :
    ((rowF .u8 256 f).toList.take 1 ++ (List.range p).map (fun j => Value.int .u8 (f j)) ++ (rowF .u8 256 f).toList.drop (1 + ((List.range p).map (fun j => Value.int .u8 (f j))).length)).toArray = rowF .u8 256 (copyF f p) := by
  rw [List.append_assoc]
  apply Array.ext'
  apply List.ext_getElem?
  intro j
  simp only [rowF, List.length_map, List.length_range]
  by_cases h0 : j = 0
  · subst h0
    rw [List.getElem?_append_left (by simp)]
    simp [copyF]
  · rw [List.getElem?_append_right (by simp; omega)]
    simp only [List.length_take, List.length_map, List.length_range]
    rw [show j - min 1 256 = j - 1 by omega]
    by_cases h1 : j ≤ p
    · rw [List.getElem?_append_left (by simp; omega)]
      have : j < 256 := by omega
      have h2 : j - 1 < p := by omega
      simp [copyF, h0, h1, h2, this]
    · rw [List.getElem?_append_right (by simp; omega), List.getElem?_drop]
      simp only [List.length_map, List.length_range]
      rw [show 1 + p + (j - 1 - p) = j by omega]
      by_cases h2 : j < 256
      · simp [copyF, h0, h1, h2]
      · simp [h2]
theorem run_copy_up {P : Program} (w : World) (dT sT ty elem : TypeId) (hu : P.underlying dT = some (.slice elem)) (hsz : (P.info? elem).map (·.size) = some 1)
    (g p dCap sCap : Nat) (t : TypeId) (f : Nat → Int) (hp : p < 256) (hb : IsB w g t .u8 256 f) :
    ∃ w', (Builtin.copy_ #[dT, sT] ty #[.slice (some ⟨g, 1, none⟩) 255 dCap, .slice (some ⟨g, 0, none⟩) p sCap]).run P w = .ok (goInt p) w' ∧ IsB w' g t .u8 256 (copyF f p) ∧ Aft g w w' := by
  have hrun := run_copy_row (P := P) w dT sT ty elem g 1 255 dCap ⟨g, 0, none⟩ p sCap (rowF .u8 256 f) t ((List.range p).map (fun j => Value.int .u8 (f j))) hu hsz hb (by simp [Nat.min_def]; omega)
    (fun j v hv => by
      have hadd : (⟨g, 0, none⟩ : Addr).add j = ⟨g, j, none⟩ := by unfold Addr.add; split <;> simp_all
      rw [hadd]
      rw [List.getElem?_map] at hv
      by_cases hj : j < p
      · rw [List.getElem?_range hj] at hv
        rw [hb.cell (by omega)]
        exact hv
      · rw [List.getElem?_eq_none (by simpa using hj)] at hv
        cases hv)
    (by rw [rowF_size]; simp; omega) (fun v hv => by
      obtain ⟨j, _, rfl⟩ := List.mem_map.1 hv
      rfl)
  rw [copy_row f p hp, List.length_map, List.length_range] at hrun
  exact ⟨_, hrun, hb.row _, rfl, rfl, rfl, by simp [World.setRow], fun k hk hg => setRow_other w g k _ hg⟩
set_option maxRecDepth 100000 in
set_option maxHeartbeats 1000000 in
theorem bring_impl (g p : Nat) (t : TypeId) (f : Nat → Int) (w : World) (hb : IsB w g t .u8 256 f) (hp : p < 256) :
    Calls Tryz.prog 158 #[.pointer (some ⟨g, 0, none⟩), .int .i64 p] w fun e w' => e = .returned (.tuple #[]) ∧ IsB w' g t .u8 256 (front f p) ∧ Aft g w w' := by
  have c0 := hb.cell hp
  have HB := hideZ hb
  have HA := hideZ (Aft.refl g w)
  obtain ⟨x, hx⟩ : ∃ x, x = f p := ⟨_, rfl⟩
  have HX := hideZ hx
  rw [← hx] at c0
  clear hx hb
  go_enter Tryz.func158, Tryz.ntmps158
  go_wp2_with fail
  have hp1 : (p : Int) ≤ 256 := by omega
  have hp2 : ¬ (p : Int) < 0 := by omega
  have hp3 : ¬ (256 : Int) < (p : Int) := by omega
  obtain ⟨W4, hcp, hb4, ha4⟩ := run_copy_up (P := Tryz.prog) w.drew 22 22 3 5 Tryz.underlying22 Tryz.sizeB5 g p 255 256 t f hp (HB.out.of_heap rfl)
  have HB4 := hideZ hb4
  have HA4 : Hid (Aft g w W4) := ⟨ha4.1, ha4.2.1, ha4.2.2.1, ha4.2.2.2.1, ha4.2.2.2.2⟩
  clear hb4 ha4
  have c1 := HB4.out.cell (j := 0) (by omega)
  have f1 := HB4.out.frozen 0
  have HF := hideZ (HB4.out.set 0 x)
  go_region
  go_wp2_with fail
  refine bodyPost_end (v := .tuple #[]) (by simp [results, Tryz.results158, go_sem]) rfl ⟨rfl, HF.out.congr (fun j _ => ?_), HA4.out.set 0 _⟩
  rw [HX.out]
  exact copy_front f p j
def rise (k : Nat) : Nat → Int := fun j => if j < k then (j : Int) else 0
theorem rise_next (k j : Nat) : upd (rise k) k (k : Int) j = rise (k + 1) j := by
  unfold upd rise
  by_cases e : j = k
  · subst e; rw [if_pos rfl, if_pos (by omega)]
  · rw [if_neg e]
    by_cases h : j < k
    · rw [if_pos h, if_pos (by omega)]
    · rw [if_neg h, if_neg (by omega)]
theorem rise_all (j : Nat) (h : j < 256) : rise 256 j = row0 j := if_pos h
set_option maxRecDepth 100000 in
set_option maxHeartbeats 1000000 in
theorem rising_impl (w : World) :
    Calls Tryz.prog 157 #[] w fun e w' => e = .returned (.agg (rowF .u8 256 row0)) ∧ Below w.heap.size w w' := by
  go_enter Tryz.func157, Tryz.ntmps157
  go_wp2_with ((with_reducible refine wpList_alloc_row Tryz.zeroA166 ?_); intro w1 hb1 hbel1 hs1 ho1)
  rename_i w0 hb0 hbel0 hs0 ho0 K0 a0
  have HB1 := hideZ hb1
  have HB0 := hideZ (hb0.of_heap (ho1 w.heap.size (by omega)))
  have HBel := hideZ ((hbel0 w.heap.size (Nat.le_refl _)).trans (hbel1 w.heap.size (by omega)))
  rw [hs0] at HB1 hs1
  clear hb1 hbel1 ho1 hb0 hbel0 ho0
  go_loopw [3] (fun i wr => ∃ k : Nat, i = .int .i64 k ∧ k ≤ 256 ∧ IsB wr (w.heap.size + 1) 166 .u8 256 (rise k) ∧ IsB wr w.heap.size 166 .u8 256 (fun _ => 0) ∧ Below w.heap.size w wr) (fun i _ => 256 - (intOf i).toNat)
  case atStart => exact ⟨0, rfl, by omega, HB1.out.congr (fun j _ => by unfold rise; rw [if_neg (by omega)]), HB0.out, HBel.out⟩
  case round =>
    obtain ⟨k, rfl, hk, h1, h0, hbel⟩ := hrel
    have G1 := hideZ h1
    have G0 := hideZ h0
    have GB := hideZ hbel
    by_cases hlt : k < 256
    · have ck := h1.cell (j := k) hlt
      have fk := h1.frozen k
      have hwr : ((k : Int)) % 256 = (k : Int) := by omega
      have HN := hideZ (h1.set k (k : Int))
      clear h1 h0 hbel
      go_wp2_with fail
      go_roundw
      case rel => exact ⟨k + 1, by go_num, by omega, HN.out.congr (fun j _ => rise_next k j), G0.out.set_other _ _ (by simp), GB.out.setCell (by simp) _⟩
      case measure => simp [intOf]; omega
    · obtain rfl : k = 256 := by omega
      have G2 := hideZ (h1.congr (fun j hj => rise_all j hj))
      clear h1 h0 hbel
      go_wp2_with (first | ((with_reducible refine Sh.wpList_load_row G2.out Tryz.underlying166 Tryz.sizeA166 ?_ ?_); (· rfl)) | ((with_reducible refine Sh.wpList_store_row G0.out Tryz.sizeA166 row0 ?_ ?_ ?_); (· rfl); (· rfl)))
      exact bodyPost_ret (v := .agg (rowF .u8 256 row0)) (results_row rfl _ rfl (G0.out.row _) Tryz.underlying166 Tryz.sizeA166) rfl ⟨rfl, below_row GB.out (Nat.le_refl _) _⟩
end Go.Proofs.YtjdlgpnhkfdehaaGreatDoor.Fr

