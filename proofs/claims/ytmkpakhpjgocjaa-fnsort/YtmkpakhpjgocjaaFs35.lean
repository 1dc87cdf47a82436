/- Texts put together: DrawZb, OrdTop. -/
import Derived.Test.YtmkpakhpjgocjaaFs34
import Derived.Test.YtmkpakhpjgocjaaFs27
import Derived.Test.YtmkpakhpjgocjaaFs17
/- What is drawn for ZerosBack: some numbers. -/
namespace Go.Proofs.Ytmkpakhpjgocjaa.Dr
open Go.RowKit
open Go.Proofs.Ytmkpakhpjgocjaa.In (OwnI one_newI one_cellI)
open Go.Proofs.Ytmkpakhpjgocjaa.In.Try (infoI2)
open Go.Proofs.Ytmkpakhpjgocjaa.Ze (zerosOf_spec zerosR zerosR_len)

def vals5' (j : Nat) : Int := if j = 0 then -1 else if j = 1 then 0 else if j = 2 then 1 else if j = 3 then 256 else 257
theorem n_five (B : Nat) (a : Option Addr) (len cap : Nat) (w : World) (hl : len ≤ 1048576) (hs : Src w B a len cap) :
    Calls Try.prog 71 #[.pointer (some ⟨B, 0, none⟩), .int .i64 5] (w.alloc (.cells #[.int .i64 (-1), .int .i64 0, .int .i64 1, .int .i64 256, .int .i64 257] 2)) fun e w' =>
      ∃ (j : Nat) (u : Int), e = .returned (.int .i64 j) ∧ (j : Int) < 5 ∧ w'.cell? ⟨w.heap.size, j, none⟩ = some (.int .i64 u) ∧ Src w' B a len cap ∧ Only B (w.alloc (.cells #[.int .i64 (-1), .int .i64 0, .int .i64 1, .int .i64 256, .int .i64 257] 2)) w' := by
  refine (n_any B a len cap 5 _ hl (by omega) (hs.below ((Below.refl _ _).alloc (Nat.le_refl _) _))).mono ?_
  rintro e w' ⟨r, rfl, x0, x1, hsN, ho⟩
  obtain ⟨j, rfl⟩ := Int.eq_ofNat_of_zero_le x0
  have hj : j < 5 := by omega
  refine ⟨j, vals5' j, rfl, by omega, ?_, hsN, ho⟩
  refine (World.cell?_of_block (w := w.alloc _) (a := ⟨w.heap.size, j, none⟩) (ho.2.2.2.2 w.heap.size (by have := hs.lt; omega))).trans ?_
  rw [cell_of_row _ _ j _ _ _ (heap_alloc_last w _)]
  obtain rfl | rfl | rfl | rfl | rfl : j = 0 ∨ j = 1 ∨ j = 2 ∨ j = 3 ∨ j = 4 := by omega
  all_goals rfl

/-- the list so far, its source and the marks between them -/
def ZbAt (w : World) (b : Nat) (a : Option Addr) (len cap m : Nat) (u : Value) (n : Nat) (wr : World) : Prop :=
  ∃ L : List Int, OwnI wr m u L ∧ L.length ≤ n ∧ Src wr b a len cap ∧ b < m ∧ m ≤ wr.heap.size ∧ Below b w wr

set_option maxRecDepth 100000 in
set_option maxHeartbeats 2000000 in
theorem drawZb_any (a : Option Addr) (len cap : Nat) (w : World) (hl : len ≤ 1048576) (hr : Row w w.heap.size a len) :
    Calls Try.prog 42 #[.slice a len cap] w fun e w' => ∃ (v : Value) (l : List Int), e = .returned v ∧ OwnI w' w.heap.size v l ∧ l.length ≤ 600 ∧ Below w.heap.size w w' := by
  obtain ⟨i1, hi1, hy0, hy1, hy2⟩ := info_parts infoI2
  have HR := hideD hr
  clear hr
  go_enter Try.func42, Try.ntmps42
  go_wp2_with fail
  refine (source_any a len cap _ hl HR.out).mono ?_
  rintro e w1 ⟨rfl, hs1, hb1, hz⟩
  have HS1 := hideD hs1
  have HB1 := hideD hb1
  have z1 := hb1.size
  have hR1 := hideD ((HR.out.below hb1).mono z1)
  have hB1 := hs1.lt
  clear hs1 hb1 hz
  go_wp2_with fail
  refine (drawZo_any a len cap w1 hl hR1.out).mono ?_
  rintro e w2 ⟨v0, L0, rfl, ho2, hl2, hb2⟩
  have HS2 := hideD (HS1.out.below hb2)
  have HB2 := hideD (HB1.out.trans (hb2.mono z1))
  have z2 := hb2.size
  obtain ⟨a0, c0, rfl, _, hI0⟩ := ho2.ints
  have HZ := hideD (zerosOf_spec L0 a0 c0 w2.heap.size w2 hI0 (Nat.le_refl _) (by omega))
  have HL := hideD (Nat.le_trans (zerosR_len L0) hl2)
  clear ho2 hb2 hI0 hl2
  generalize L0.length = n0 at HZ HL ⊢
  generalize zerosR L0 = L at HZ HL
  go_wp2_with fail
  refine HZ.out.mono ?_
  rintro e w3 ⟨v, rfl, ho3, hb3⟩
  have A3 : Hid (ZbAt w w.heap.size a len cap w2.heap.size v 500 w3) := ⟨L, ho3, HL.out, HS2.out.below hb3, by omega, hb3.size, HB2.out.trans (hb3.mono (by omega))⟩
  clear ho3 hb3
  obtain ⟨mk, hmk⟩ : ∃ mk, mk = w2.heap.size := ⟨_, rfl⟩
  rw [← hmk] at A3
  clear hmk HB1 HB2 HS1 HS2 z1 z2 hB1 hR1 HZ
  obtain ⟨L3, ho3, hL3, hs3, hm3, hz3, hb3⟩ := A3.out
  have HO3 := hideD ho3
  have HB3 := hideD hb3
  obtain ⟨a3, c3, rfl, _, _⟩ := ho3.ints
  go_wp2_with fail
  refine (one_any w.heap.size a len cap 4 _ hl (by omega) hs3).mono ?_
  rintro e w4 ⟨r4, rfl, hs4, ho4⟩
  have z4 : w3.heap.size = w4.heap.size := ho4.2.2.2.1.symm
  have HO4 : Hid (OwnI w4 mk (.slice a3 L3.length c3) L3) := owns_only HO3.out ho4 hm3
  have HB4 := hideD (ho4.below HB3.out (Nat.le_refl _))
  have HS4 := hideD hs4
  have hz4 : mk ≤ w4.heap.size := by omega
  have HN := hideD (n_five w.heap.size a len cap w4 hl hs4)
  clear ho3 hb3 hs3 hs4 ho4 z4 A3 HO3 HB3
  cases r4 with
  | false =>
    go_wp2_with fail
    refine (one_any w.heap.size a len cap 15 _ hl (by omega) HS4.out).mono ?_
    rintro e w8 ⟨r8, rfl, hs8, ho8⟩
    have z8 : w4.heap.size = w8.heap.size := ho8.2.2.2.1.symm
    have HO8 : Hid (OwnI w8 mk (.slice a3 L3.length c3) L3) := owns_only HO4.out ho8 hm3
    have HB8 := hideD (ho8.below HB4.out (Nat.le_refl _))
    have HS8 := hideD hs8
    have hz8 : mk ≤ w8.heap.size := by omega
    clear hs8 ho8 z8
    cases r8 with
    | false =>
      go_wp2_with fail
      go_ret
      exact ⟨_, L3, rfl, HO8.out.mono (by omega), by omega, HB8.out⟩
    | true =>
      go_wp2_with fail
      go_loopw [5, 4] (fun i u wr => ∃ (k : Nat) (L' : List Int), i = .int .i64 k ∧ k ≤ 10 ∧ OwnI wr mk u L' ∧ L'.length ≤ 501 + k ∧ Src wr w.heap.size a len cap ∧ mk ≤ wr.heap.size ∧ Below w.heap.size w wr) (fun i _ _ => 10 - (intOf i).toNat)
      case atStart => exact ⟨0, L3, rfl, by omega, HO8.out, by omega, HS8.out, hz8, HB8.out⟩
      case round =>
        obtain ⟨k, L', rfl, hk, hown, hlen, hsrc, hzr, hbel⟩ := hrel
        have O1 := hideD hown
        have S1 := hideD hsrc
        have GB := hideD hbel
        have HLL := hideD hlen
        have hsz := hbel.size
        clear hown hsrc hbel hlen
        obtain ⟨a', cap', rfl, _, _⟩ := O1.out.ints
        by_cases hlt : k < 10
        · have hkz : (k : Int) < 10 := by omega
          go_wp2_with fail
          refine (n_any w.heap.size a len cap 2 _ hl (by omega) S1.out).mono ?_
          rintro e w9 ⟨r9, rfl, p0, p1, hs9, ho9⟩
          have z9 : wr.heap.size = w9.heap.size := ho9.2.2.2.1.symm
          have O9 : Hid (OwnI w9 mk (.slice a' L'.length cap') L') := owns_only O1.out ho9 hm3
          have B9 := hideD (ho9.below GB.out (Nat.le_refl _))
          have S9 := hideD hs9
          have hz9 : mk ≤ w9.heap.size := by omega
          clear hs9 ho9 z9
          go_wp2_with (at_builtin; refine wpList_append_own _ rfl (.tmp 27) (.tmp 30) 23 rfl mk 2 i1 (.int .i64 0) 1 8 Try.underlying23 hi1 hy0 hy1 hy2 rfl (by decide) _ L'.length (L'.map (Value.int .i64)) rfl ?own ⟨w9.heap.size, 0, none⟩ 1 1 [.int .i64 r9] rfl rfl (one_newI _ _ _) (one_cellI _) (by unfold maxLen; have := HLL.out; omega) (by have := HLL.out; omega) (by simp; omega) ?_)
          case own => exact Ze.OwnI.alloc O9.out _
          intro v' w6 hown' hgrow _
          have N6 : Hid (OwnI w6 mk v' (L' ++ [r9])) := In.OwnI.snoc hown'
          have bb := In.app_one (Below.refl mk w9) hz9 (Nat.le_refl _) O9.out hgrow
          have b6 := hideD (B9.out.trans (bb.mono (by omega)))
          have S6 := hideD (S9.out.stays (fun k hk => bb.block k (by omega)))
          have z6 := bb.size
          clear hown' hgrow bb
          go_wp2_with fail
          go_roundw
          case rel => exact ⟨k + 1, L' ++ [r9], by go_num, by omega, N6.out, by have := HLL.out; simp; omega, S6.out, by omega, b6.out⟩
          case measure => simp [intOf]; omega
        · have hkz : ¬ (k : Int) < 10 := by omega
          go_wp2_with fail
          go_ret
          exact ⟨.slice a' L'.length cap', rfl, L', O1.out.mono (by omega), by have := HLL.out; omega, GB.out⟩
  | true =>
    go_wp2_with fail
    refine HN.out.mono ?_
    rintro e w5 ⟨j, u, rfl, hj, hc, hs5, ho5⟩
    have HO5 : Hid (OwnI w5 mk (.slice a3 L3.length c3) L3) := owns_only (Ze.OwnI.alloc HO4.out _) ho5 hm3
    have HB5 := hideD (ho5.below (HB4.out.alloc (by omega) _) (Nat.le_refl _))
    have HS5 := hideD hs5
    have z5 : w4.heap.size + 1 = w5.heap.size := by have := ho5.2.2.2.1; simp at this; omega
    have hz5 : mk ≤ w5.heap.size := by omega
    clear ho5 z5 hs5
    go_wp2_with (at_builtin; refine wpList_append_own _ rfl (.tmp 13) (.tmp 19) 23 rfl mk 2 i1 (.int .i64 0) 1 8 Try.underlying23 hi1 hy0 hy1 hy2 rfl (by decide) _ L3.length (L3.map (Value.int .i64)) rfl ?own ⟨w5.heap.size, 0, none⟩ 1 1 [.int .i64 u] rfl rfl (one_newI _ _ _) (one_cellI _) (by unfold maxLen; omega) (by omega) (by simp; omega) ?_)
    case own => exact Ze.OwnI.alloc HO5.out _
    intro v' w6 hown' hgrow _
    have ho6 : OwnI w6 mk v' (L3 ++ [u]) := In.OwnI.snoc hown'
    have bb := In.app_one (Below.refl mk w5) hz5 (Nat.le_refl _) HO5.out hgrow
    have HB6 := hideD (HB5.out.trans (bb.mono (by omega)))
    have HS6 := hideD (HS5.out.stays (fun k hk => bb.block k (by omega)))
    have hz6 : mk ≤ w6.heap.size := by have := bb.size; omega
    obtain ⟨L6, hL6⟩ : ∃ L6, L6 = L3 ++ [u] := ⟨_, rfl⟩
    have hl6 : L6.length ≤ 501 := by rw [hL6]; simp; omega
    rw [← hL6] at ho6
    have HO6 := hideD ho6
    obtain ⟨a6, c6, rfl, _, _⟩ := ho6.ints
    clear hown' hgrow bb ho6 hL6 HO5 HB5 HS5 hc
    go_wp2_with fail
    refine (one_any w.heap.size a len cap 15 _ hl (by omega) HS6.out).mono ?_
    rintro e w8 ⟨r8, rfl, hs8, ho8⟩
    have z8 : w6.heap.size = w8.heap.size := ho8.2.2.2.1.symm
    have HO8 : Hid (OwnI w8 mk (.slice a6 L6.length c6) L6) := owns_only HO6.out ho8 hm3
    have HB8 := hideD (ho8.below HB6.out (Nat.le_refl _))
    have HS8 := hideD hs8
    have hz8 : mk ≤ w8.heap.size := by omega
    clear hs8 ho8 z8
    cases r8 with
    | false =>
      go_wp2_with fail
      go_ret
      exact ⟨_, L6, rfl, HO8.out.mono (by omega), by omega, HB8.out⟩
    | true =>
      go_wp2_with fail
      go_loopw [5, 4] (fun i u wr => ∃ (k : Nat) (L' : List Int), i = .int .i64 k ∧ k ≤ 10 ∧ OwnI wr mk u L' ∧ L'.length ≤ 501 + k ∧ Src wr w.heap.size a len cap ∧ mk ≤ wr.heap.size ∧ Below w.heap.size w wr) (fun i _ _ => 10 - (intOf i).toNat)
      case atStart => exact ⟨0, L6, rfl, by omega, HO8.out, by omega, HS8.out, hz8, HB8.out⟩
      case round =>
        obtain ⟨k, L', rfl, hk, hown, hlen, hsrc, hzr, hbel⟩ := hrel
        have O1 := hideD hown
        have S1 := hideD hsrc
        have GB := hideD hbel
        have HLL := hideD hlen
        have hsz := hbel.size
        clear hown hsrc hbel hlen
        obtain ⟨a', cap', rfl, _, _⟩ := O1.out.ints
        by_cases hlt : k < 10
        · have hkz : (k : Int) < 10 := by omega
          go_wp2_with fail
          refine (n_any w.heap.size a len cap 2 _ hl (by omega) S1.out).mono ?_
          rintro e w9 ⟨r9, rfl, p0, p1, hs9, ho9⟩
          have z9 : wr.heap.size = w9.heap.size := ho9.2.2.2.1.symm
          have O9 : Hid (OwnI w9 mk (.slice a' L'.length cap') L') := owns_only O1.out ho9 hm3
          have B9 := hideD (ho9.below GB.out (Nat.le_refl _))
          have S9 := hideD hs9
          have hz9 : mk ≤ w9.heap.size := by omega
          clear hs9 ho9 z9
          go_wp2_with (at_builtin; refine wpList_append_own _ rfl (.tmp 27) (.tmp 30) 23 rfl mk 2 i1 (.int .i64 0) 1 8 Try.underlying23 hi1 hy0 hy1 hy2 rfl (by decide) _ L'.length (L'.map (Value.int .i64)) rfl ?own ⟨w9.heap.size, 0, none⟩ 1 1 [.int .i64 r9] rfl rfl (one_newI _ _ _) (one_cellI _) (by unfold maxLen; have := HLL.out; omega) (by have := HLL.out; omega) (by simp; omega) ?_)
          case own => exact Ze.OwnI.alloc O9.out _
          intro v' w6 hown' hgrow _
          have N6 : Hid (OwnI w6 mk v' (L' ++ [r9])) := In.OwnI.snoc hown'
          have bb := In.app_one (Below.refl mk w9) hz9 (Nat.le_refl _) O9.out hgrow
          have b6 := hideD (B9.out.trans (bb.mono (by omega)))
          have S6 := hideD (S9.out.stays (fun k hk => bb.block k (by omega)))
          have z6 := bb.size
          clear hown' hgrow bb
          go_wp2_with fail
          go_roundw
          case rel => exact ⟨k + 1, L' ++ [r9], by go_num, by omega, N6.out, by have := HLL.out; simp; omega, S6.out, by omega, b6.out⟩
          case measure => simp [intOf]; omega
        · have hkz : ¬ (k : Int) < 10 := by omega
          go_wp2_with fail
          go_ret
          exact ⟨.slice a' L'.length cap', rfl, L', O1.out.mono (by omega), by have := HLL.out; omega, GB.out⟩
end Go.Proofs.Ytmkpakhpjgocjaa.Dr

/- Both OrderOf. -/
