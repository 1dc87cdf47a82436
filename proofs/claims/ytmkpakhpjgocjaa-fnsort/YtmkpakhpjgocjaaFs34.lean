/- Texts put together: DrawZo, ZeroSpec2. -/
import Derived.Test.YtmkpakhpjgocjaaFs33
import Derived.Test.YtmkpakhpjgocjaaFs15
import Derived.Test.YtmkpakhpjgocjaaFs17
/- What is drawn for ZerosOf: some numbers. -/
namespace Go.Proofs.Ytmkpakhpjgocjaa.Dr
open Go.RowKit
open Go.Proofs.Ytmkpakhpjgocjaa.In (OwnI one_newI one_cellI)
open Go.Proofs.Ytmkpakhpjgocjaa.In.Try (infoI2)
open Go.Proofs.Ytmkpakhpjgocjaa.Fr (frontOf_spec frontR frontR_len)

def vals3 (j : Nat) : Int := if j = 0 then -1 else if j = 1 then 255 else 256
theorem n_three (B : Nat) (a : Option Addr) (len cap : Nat) (w : World) (hl : len ≤ 1048576) (hs : Src w B a len cap) :
    Calls Try.prog 71 #[.pointer (some ⟨B, 0, none⟩), .int .i64 3] (w.alloc (.cells #[.int .i64 (-1), .int .i64 255, .int .i64 256] 2)) fun e w' =>
      ∃ (j : Nat) (u : Int), e = .returned (.int .i64 j) ∧ (j : Int) < 3 ∧ w'.cell? ⟨w.heap.size, j, none⟩ = some (.int .i64 u) ∧ Only B (w.alloc (.cells #[.int .i64 (-1), .int .i64 255, .int .i64 256] 2)) w' := by
  refine (n_any B a len cap 3 _ hl (by omega) (hs.below ((Below.refl _ _).alloc (Nat.le_refl _) _))).mono ?_
  rintro e w' ⟨r, rfl, x0, x1, hsN, ho⟩
  obtain ⟨j, rfl⟩ := Int.eq_ofNat_of_zero_le x0
  have hj : j < 3 := by omega
  refine ⟨j, vals3 j, rfl, by omega, ?_, ho⟩
  refine (World.cell?_of_block (w := w.alloc _) (a := ⟨w.heap.size, j, none⟩) (ho.2.2.2.2 w.heap.size (by have := hs.lt; omega))).trans ?_
  rw [cell_of_row _ _ j _ _ _ (heap_alloc_last w _)]
  obtain rfl | rfl | rfl : j = 0 ∨ j = 1 ∨ j = 2 := by omega
  all_goals rfl

set_option maxRecDepth 100000 in
set_option maxHeartbeats 2000000 in
theorem drawZo_any (a : Option Addr) (len cap : Nat) (w : World) (hl : len ≤ 1048576) (hr : Row w w.heap.size a len) :
    Calls Try.prog 40 #[.slice a len cap] w fun e w' => ∃ (v : Value) (l : List Int), e = .returned v ∧ OwnI w' w.heap.size v l ∧ l.length ≤ 500 ∧ Below w.heap.size w w' := by
  obtain ⟨i1, hi1, hy0, hy1, hy2⟩ := info_parts infoI2
  have HR := hideD hr
  clear hr
  go_enter Try.func40, Try.ntmps40
  go_wp2_with fail
  refine (source_any a len cap _ hl HR.out).mono ?_
  rintro e w1 ⟨rfl, hs1, hb1, hz⟩
  have HS1 := hideD hs1
  have HB1 := hideD hb1
  have z1 := hb1.size
  clear hs1 hb1 hz
  go_wp2_with fail
  refine (text5_any w.heap.size a len cap _ hl HS1.out).mono ?_
  rintro e w2 ⟨s, hs, rfl, hs2, ha2⟩
  have HS2 := hideD hs2
  have HB2 := hideD (ha2.below HB1.out (Nat.le_refl _) z1)
  have z2 := HB2.out.size
  have hB2 := hs2.lt
  have HW := hideD (frontOf_spec s w2 (by omega))
  have HL := hideD (frontR_len s.data.toList)
  clear hs2 ha2
  generalize frontR s.data.toList = L at HW HL
  go_wp2_with fail
  refine HW.out.mono ?_
  rintro e w3 ⟨v, rfl, ho3, hb3⟩
  have HO3 := hideD ho3
  have HS3 := hideD (HS2.out.below hb3)
  have HB3 := hideD (HB2.out.trans (hb3.mono z2))
  have z3 := hb3.size
  clear ho3 hb3
  go_wp2_with fail
  refine (n_any w.heap.size a len cap 20 _ hl (by omega) HS3.out).mono ?_
  rintro e wn ⟨rn, rfl, p0, p1, hsn, hon⟩
  obtain ⟨m, rfl⟩ := Int.eq_ofNat_of_zero_le p0
  have hm : m ≤ 20 := by omega
  have HSn := hideD hsn
  have HOn : Hid (OwnI wn w2.heap.size v L) := owns_only HO3.out hon hB2
  have HBn := hideD (hon.below HB3.out (Nat.le_refl _))
  have zn : w3.heap.size = wn.heap.size := hon.2.2.2.1.symm
  have z2n : w2.heap.size ≤ wn.heap.size := by omega
  clear hsn hon zn p0 p1 HO3 HS3 HB3
  go_wp2_with fail
  go_loopw [5, 4] (fun i u wr => ∃ (k : Nat) (L' : List Int), i = .int .i64 k ∧ k ≤ 20 ∧ OwnI wr w2.heap.size u L' ∧ L'.length + k ≤ 420 ∧ Src wr w.heap.size a len cap ∧ w2.heap.size ≤ wr.heap.size ∧ Below w.heap.size w wr) (fun i _ _ => (intOf i).toNat)
  case atStart => exact ⟨m, L, rfl, hm, HOn.out, by have := HL.out; omega, HSn.out, z2n, HBn.out⟩
  case round =>
    obtain ⟨k, L', rfl, hk, hown, hlen, hsrc, hzr, hbel⟩ := hrel
    have O1 := hideD hown
    have S1 := hideD hsrc
    have GB := hideD hbel
    have HLL := hideD hlen
    have hsz := hbel.size
    clear hown hsrc hbel hlen HOn HSn HBn
    by_cases hlt : 0 < k
    · obtain ⟨a', cap', rfl, _, _⟩ := O1.out.ints
      obtain ⟨kp, hkp⟩ : ∃ kp, k = kp + 1 := ⟨k - 1, by omega⟩
      have ek : (k : Int) - 1 = (kp : Int) := by omega
      have HK := hideD hkp
      have hkz : (0 : Int) < (k : Int) := by omega
      clear hkp
      go_wp2_with (at_builtin; refine wpList_append_own _ rfl (.tmp 17) (.tmp 18) 23 rfl w2.heap.size 2 i1 (.int .i64 0) 1 8 Try.underlying23 hi1 hy0 hy1 hy2 rfl (by decide) _ L'.length (L'.map (Value.int .i64)) rfl ?own ⟨wr.heap.size, 0, none⟩ 1 1 [.int .i64 0] rfl rfl (one_newI _ _ _) (one_cellI _) (by unfold maxLen; have := HLL.out; omega) (by have := HLL.out; omega) (by simp; omega) ?_)
      case own => exact Ze.OwnI.alloc O1.out _
      intro v' w6 hown' hgrow _
      have N6 : Hid (OwnI w6 w2.heap.size v' (L' ++ [0])) := In.OwnI.snoc hown'
      have bb := In.app_one (Below.refl w2.heap.size wr) hzr (Nat.le_refl _) O1.out hgrow
      have b6 := hideD (GB.out.trans (bb.mono z2))
      have S6 := hideD (S1.out.stays (fun k hk => bb.block k (by omega)))
      have z6 := bb.size
      clear hown' hgrow bb
      go_wp2_with fail
      go_roundw
      case rel => exact ⟨kp, L' ++ [0], by go_num, by have := HK.out; omega, N6.out, by have := HK.out; have := HLL.out; simp; omega, S6.out, by omega, b6.out⟩
      case measure => have := HK.out; simp [intOf]; omega
    · obtain rfl : k = 0 := by omega
      obtain ⟨a', cap', rfl, _, _⟩ := O1.out.ints
      go_wp2_with fail
      refine (one_any w.heap.size a len cap 8 _ hl (by omega) S1.out).mono ?_
      rintro e w4 ⟨r4, rfl, hs4, ho4⟩
      have HO4 : Hid (OwnI w4 w2.heap.size (.slice a' L'.length cap') L') := owns_only O1.out ho4 hB2
      have HB4 := hideD (ho4.below GB.out (Nat.le_refl _))
      have HN := hideD (n_three w.heap.size a len cap w4 hl hs4)
      have z4 : wr.heap.size = w4.heap.size := ho4.2.2.2.1.symm
      have z24 : w2.heap.size ≤ w4.heap.size := by omega
      clear hs4 ho4 z4
      cases r4 with
      | false =>
        go_wp2_with fail
        go_ret
        exact ⟨_, L', rfl, HO4.out.mono (by omega), by have := HLL.out; omega, HB4.out⟩
      | true =>
        go_wp2_with fail
        refine HN.out.mono ?_
        rintro e w5 ⟨j, u, rfl, hj, hc, ho5⟩
        have HO5 : Hid (OwnI w5 w2.heap.size (.slice a' L'.length cap') L') := owns_only (Ze.OwnI.alloc HO4.out _) ho5 hB2
        have HB5 := hideD (ho5.below (HB4.out.alloc (by omega) _) (Nat.le_refl _))
        have z5 : w4.heap.size + 1 = w5.heap.size := by have := ho5.2.2.2.1; simp at this; omega
        have z25 : w2.heap.size ≤ w5.heap.size := by omega
        clear ho5 z5
        go_wp2_with (at_builtin; refine wpList_append_own _ rfl (.tmp 22) (.tmp 28) 23 rfl w2.heap.size 2 i1 (.int .i64 0) 1 8 Try.underlying23 hi1 hy0 hy1 hy2 rfl (by decide) _ L'.length (L'.map (Value.int .i64)) rfl ?own ⟨w5.heap.size, 0, none⟩ 1 1 [.int .i64 u] rfl rfl (one_newI _ _ _) (one_cellI _) (by unfold maxLen; have := HLL.out; omega) (by have := HLL.out; omega) (by simp; omega) ?_)
        case own => exact Ze.OwnI.alloc HO5.out _
        intro v' w6 hown' hgrow _
        have N6 : Hid (OwnI w6 w2.heap.size v' (L' ++ [u])) := In.OwnI.snoc hown'
        have b6 := hideD (HB5.out.trans ((In.app_one (Below.refl w2.heap.size w5) z25 (Nat.le_refl _) HO5.out hgrow).mono z2))
        clear hown' hgrow
        go_wp2_with fail
        go_ret
        exact ⟨v', L' ++ [u], rfl, N6.out.mono (by omega), by have := HLL.out; simp; omega, b6.out⟩
end Go.Proofs.Ytmkpakhpjgocjaa.Dr

/- What the specification's ZerosOf answers, in whole. -/
namespace Go.Proofs.Ytmkpakhpjgocjaa.Ze
open Go.RowKit
open Go.Proofs.Ytmkpakhpjgocjaa.In (Ints OwnI IsO one_newI one_cellI app_one)
open Go.Proofs.Ytmkpakhpjgocjaa.In.Try (infoI2)

set_option maxRecDepth 100000 in
set_option maxHeartbeats 1000000 in
theorem zerosOf_spec (l : List Int) (a : Option Addr) (cap B : Nat) (w : World) (hi : Ints w B a l) (hB : B ≤ w.heap.size) (hn : l.length ≤ 1048576) :
    Calls Try.prog 49 #[.slice a l.length cap] w fun e w' => ∃ v, e = .returned v ∧ OwnI w' w.heap.size v (zerosR l) ∧ Below w.heap.size w w' := by
  obtain ⟨i0, hi0, hz0, hz1, hz2⟩ := info_parts infoI2
  have hb0 : Below w.heap.size w (w.alloc (.cells #[] 2)) := (Below.refl _ _).alloc (Nat.le_refl _) _
  have HU := hideZ (nums_spec l 255 a cap w.heap.size (w.alloc (.cells #[] 2)) ((hi.mono hB).below hb0) hn)
  have HW := hideZ (OwnI.empty w)
  have HB0 := hideZ hb0
  cases hu : numsR l 255 with
  | false =>
    rw [zerosR_no hu]
    rw [hu] at HU
    clear hi hu hb0
    generalize l.length = n at HU hn ⊢
    go_enter Try.func49, Try.ntmps49
    go_wp2_with fail
    refine HU.out.mono ?_
    rintro e w' ⟨rfl, hw⟩
    subst w'
    go_wp2_with fail
    go_ret
    exact ⟨_, rfl, HW.out, HB0.out⟩
  | true =>
    rw [zerosR_yes hu]
    have HUP := hideZ (upTo_yes (numsR_yes hu).2)
    have hlong := (numsR_yes hu).1
    rw [hu] at HU
    have HS := hideZ (hi.mono hB)
    clear hi hu hb0
    obtain ⟨n, hln⟩ : ∃ n, n = l.length := ⟨_, rfl⟩
    have HLN := hideZ hln
    rw [← hln] at HU hlong ⊢
    clear hln hn
    go_enter Try.func49, Try.ntmps49
    go_wp2_with fail
    refine HU.out.mono ?_
    rintro e w' ⟨rfl, hw⟩
    subst w'
    go_wp2_with fail
    go_loopw [5, 3, 4] (fun i u m wr => ∃ k z : Nat, i = .int .i64 k ∧ m = .int .i64 z ∧ k ≤ n ∧ z = (zst (l.take k)).2 ∧ OwnI wr w.heap.size u (zst (l.take k)).1 ∧ Below w.heap.size w wr) (fun i _ _ _ => n - (intOf i).toNat)
    case atStart => exact ⟨0, 0, rfl, rfl, Nat.zero_le _, rfl, HW.out, HB0.out⟩
    case round =>
      obtain ⟨k, z, rfl, rfl, hk, hz, hown, hbel⟩ := hrel
      have hzl := zst_len (l.take k)
      rw [List.length_take] at hzl
      have hzk : (zst (l.take k)).1.length + z ≤ k := by omega
      have GB := hideZ hbel
      have HZ := hideZ hz
      have hsz := hbel.size
      have hrl := zrun_len z
      obtain ⟨a', cap', rfl, _, _⟩ := hown.ints
      obtain ⟨lk, hlk⟩ : ∃ lk, lk = (zst (l.take k)).1 := ⟨_, rfl⟩
      rw [← hlk] at hown hzk ⊢
      have G1 := hideZ hown
      have HLK := hideZ hlk
      clear hz hown hbel hlk hzl
      have HRS := hideZ (fun W => run_spec z W (by omega))
      by_cases hlt : k < n
      · have hkl : k < l.length := by rw [← HLN.out]; exact hlt
        obtain ⟨b, off, rfl, hb, hc⟩ := (HS.out.below GB.out).some (by omega)
        have ci := hc k hkl
        have hx255 := HUP.out _ (List.getElem_mem hkl)
        obtain ⟨x, hx⟩ : ∃ x, x = l[k] := ⟨_, rfl⟩
        have HX := hideZ hx
        rw [← hx] at ci hx255
        clear hc hx
        by_cases h0 : x = 0
        · have HZ1 : Hid (zst (l.take (k + 1)) = (lk, z + 1)) := by
            unfold Hid
            rw [zst_zero hkl (by rw [← HX.out]; exact h0), HZ.out, HLK.out]
          have hbx : (x == 0) = true := beq_iff_eq.2 h0
          clear h0
          go_wp2_with fail
          go_roundw
          case rel => exact ⟨k + 1, z + 1, by go_num, by go_num, by omega, by rw [HZ1.out], by rw [HZ1.out]; exact G1.out, GB.out⟩
          case measure => simp [intOf]; omega
        · have HZ1 : Hid (zst (l.take (k + 1)) = (lk ++ zrun z ++ [x + 1], 0)) := by
            unfold Hid
            rw [zst_other hkl (by rw [← HX.out]; exact h0), HZ.out, HX.out, HLK.out]
          have hbx : (x == 0) = false := beq_eq_false_iff_ne.2 h0
          clear h0
          go_wp2_with fail
          refine (HRS.out wr).mono ?_
          rintro e w4 ⟨v4, rfl, hown4, hne4, hbel4⟩
          have G4 := hideZ (G1.out.below hbel4)
          have B4 := hideZ (GB.out.trans (hbel4.mono hsz))
          have z4 := hbel4.size
          obtain ⟨g4, cap4, rfl, hg4, hg4', ho4⟩ := own_some hown4 hne4
          have O4 := hideZ ho4
          clear hown4 hbel4 hne4 ho4
          obtain ⟨rl, hrl2⟩ : ∃ rl, rl = zrun z := ⟨_, rfl⟩
          rw [← hrl2] at O4 hrl HZ1 ⊢
          clear hrl2 HRS
          go_wp2_with (at_builtin; refine wpList_append_own _ rfl (.tmp 24) (.tmp 26) 23 rfl w.heap.size 2 i0 (.int .i64 0) 1 8 Try.underlying23 hi0 hz0 hz1 hz2 rfl (by decide) _ _ _ rfl G4.out ⟨g4, 0, none⟩ _ cap4 (rl.map (Value.int .i64)) rfl (by simp) (own_news O4.out) (own_cells rl) (by unfold maxLen; omega) (by omega) (by omega) ?_)
          intro v' w5 hown' hgrow _
          have hown5 := OwnI.joined hown'
          have b5 := app_row B4.out (by omega) (Nat.le_refl _) G4.out hgrow
          have HL4 : Hid ((lk ++ rl).length ≤ 400) := by
            unfold Hid
            rw [List.length_append]
            omega
          obtain ⟨l4, hl4⟩ : ∃ l4, l4 = lk ++ rl := ⟨_, rfl⟩
          rw [← hl4] at hown5 HZ1 HL4
          have N5 := hideZ hown5
          have B5 := hideZ b5
          have z5 := b5.size
          obtain ⟨a5, cap5, rfl, _, _⟩ := hown5.ints
          have c5 : w5.cell? ⟨b, off + k, none⟩ = some (.int .i64 x) := by
            have h1 := ((HS.out.below b5).some (by omega : 0 < l.length))
            obtain ⟨b', off', e1, _, hc'⟩ := h1
            cases e1
            rw [hc' k hkl, HX.out]
          clear hown' hgrow hown5 b5 hl4 ci
          go_wp2_with (at_builtin; refine wpList_append_own _ rfl (.tmp 28) (.tmp 34) 23 rfl w.heap.size 2 i0 (.int .i64 0) 1 8 Try.underlying23 hi0 hz0 hz1 hz2 rfl (by decide) _ _ _ rfl (OwnI.alloc N5.out _) ⟨w5.heap.size, 0, none⟩ 1 1 [.int .i64 (x + 1)] rfl rfl (one_newI _ _ _) (one_cellI _) (by unfold maxLen; have := HL4.out; omega) (by have := HL4.out; omega) (by simp; omega) ?_)
          intro v' w6 hown' hgrow _
          have N6 := hideZ (OwnI.snoc hown')
          have b6 := hideZ (app_one B5.out (by omega) (Nat.le_refl _) N5.out hgrow)
          clear hown' hgrow
          go_wp2_with fail
          go_roundw
          case rel => exact ⟨k + 1, 0, by go_num, rfl, by omega, by rw [HZ1.out], by rw [HZ1.out]; exact N6.out, b6.out⟩
          case measure => simp [intOf]; omega
      · have hkn : k = l.length := by have := HLN.out; omega
        have HT : Hid (l.take k = l) := by
          unfold Hid
          rw [hkn, List.take_length]
        have HR : Hid ((zst l).1 ++ zrun (zst l).2 = lk ++ zrun z) := by
          unfold Hid
          rw [HLK.out, HZ.out, HT.out]
        clear hkn
        go_wp2_with fail
        refine (HRS.out wr).mono ?_
        rintro e w4 ⟨v4, rfl, hown4, hne4, hbel4⟩
        have G4 := hideZ (G1.out.below hbel4)
        have B4 := hideZ (GB.out.trans (hbel4.mono hsz))
        have z4 := hbel4.size
        obtain ⟨g4, cap4, rfl, hg4, hg4', ho4⟩ := own_some hown4 hne4
        have O4 := hideZ ho4
        clear hown4 hbel4 hne4 ho4
        obtain ⟨rl, hrl2⟩ : ∃ rl, rl = zrun z := ⟨_, rfl⟩
        rw [← hrl2] at O4 hrl HR ⊢
        clear hrl2 HRS
        go_wp2_with (at_builtin; refine wpList_append_own _ rfl (.tmp 36) (.tmp 38) 23 rfl w.heap.size 2 i0 (.int .i64 0) 1 8 Try.underlying23 hi0 hz0 hz1 hz2 rfl (by decide) _ _ _ rfl G4.out ⟨g4, 0, none⟩ _ cap4 (rl.map (Value.int .i64)) rfl (by simp) (own_news O4.out) (own_cells rl) (by unfold maxLen; omega) (by omega) (by omega) ?_)
        intro v' w5 hown' hgrow _
        have N5 := hideZ (OwnI.joined hown')
        have B5 := hideZ (app_row B4.out (by omega) (Nat.le_refl _) G4.out hgrow)
        clear hown' hgrow
        go_wp2_with fail
        go_ret
        exact ⟨_, rfl, by rw [HR.out]; exact N5.out, B5.out⟩
end Go.Proofs.Ytmkpakhpjgocjaa.Ze
