/- What is drawn for FrontBack: some numbers. -/
import Derived.Test.YtmkpakhpjgocjaaCz18
import Derived.Test.YtmkpakhpjgocjaaCz21
import Derived.Test.YtmkpakhpjgocjaaCz13
namespace Go.Proofs.Ytmkpakhpjgocjaa.Dr
open Go.RowKit
open Go.Proofs.Ytmkpakhpjgocjaa.In (OwnI one_newI one_cellI)
open Go.Proofs.Ytmkpakhpjgocjaa.In.Try (infoI2)
open Go.Proofs.Ytmkpakhpjgocjaa.Fr (frontOf_spec frontR frontR_len)

def vals4 (j : Nat) : Int := if j = 0 then -1 else if j = 1 then 0 else if j = 2 then 255 else 256
theorem n_four (B : Nat) (a : Option Addr) (len cap : Nat) (w : World) (hl : len ≤ 1048576) (hs : Src w B a len cap) :
    Calls Try.prog 71 #[.pointer (some ⟨B, 0, none⟩), .int .i64 4] (w.alloc (.cells #[.int .i64 (-1), .int .i64 0, .int .i64 255, .int .i64 256] 2)) fun e w' =>
      ∃ (j : Nat) (u : Int), e = .returned (.int .i64 j) ∧ (j : Int) < 4 ∧ w'.cell? ⟨w.heap.size, j, none⟩ = some (.int .i64 u) ∧ Only B (w.alloc (.cells #[.int .i64 (-1), .int .i64 0, .int .i64 255, .int .i64 256] 2)) w' := by
  refine (n_any B a len cap 4 _ hl (by omega) (hs.below ((Below.refl _ _).alloc (Nat.le_refl _) _))).mono ?_
  rintro e w' ⟨r, rfl, x0, x1, hsN, ho⟩
  obtain ⟨j, rfl⟩ := Int.eq_ofNat_of_zero_le x0
  have hj : j < 4 := by omega
  refine ⟨j, vals4 j, rfl, by omega, ?_, ho⟩
  refine (World.cell?_of_block (w := w.alloc _) (a := ⟨w.heap.size, j, none⟩) (ho.2.2.2.2 w.heap.size (by have := hs.lt; omega))).trans ?_
  rw [cell_of_row _ _ j _ _ _ (heap_alloc_last w _)]
  obtain rfl | rfl | rfl | rfl : j = 0 ∨ j = 1 ∨ j = 2 ∨ j = 3 := by omega
  all_goals rfl

set_option maxRecDepth 100000 in
set_option maxHeartbeats 2000000 in
theorem drawFb_any (a : Option Addr) (len cap : Nat) (w : World) (hl : len ≤ 1048576) (hr : Row w w.heap.size a len) :
    Calls Try.prog 39 #[.slice a len cap] w fun e w' => ∃ (v : Value) (l : List Int), e = .returned v ∧ OwnI w' w.heap.size v l ∧ l.length ≤ 500 ∧ Below w.heap.size w w' := by
  obtain ⟨i1, hi1, hy0, hy1, hy2⟩ := info_parts infoI2
  have HR := hideD hr
  clear hr
  go_enter Try.func39, Try.ntmps39
  go_wp2_with fail
  refine (source_any a len cap _ hl HR.out).mono ?_
  rintro e w1 ⟨rfl, hs1, hb1, hz⟩
  have HS1 := hideD hs1
  have HB1 := hideD hb1
  have z1 := hb1.size
  clear hs1 hb1 hz
  go_wp2_with fail
  refine (text5_any w.heap.size a len cap _ hl HS1.out).mono ?_
  rintro e w2 ⟨s, hs, rfl, hs2, ha2⟩
  have HS2 := hideD hs2
  have HB2 := hideD (ha2.below HB1.out (Nat.le_refl _) z1)
  have z2 := HB2.out.size
  have hB2 := hs2.lt
  have HW := hideD (frontOf_spec s w2 (by omega))
  have HL := hideD (frontR_len s.data.toList)
  clear hs2 ha2
  generalize frontR s.data.toList = L at HW HL
  go_wp2_with fail
  refine HW.out.mono ?_
  rintro e w3 ⟨v, rfl, ho3, hb3⟩
  have HO3 := hideD ho3
  have HS3 := hideD (HS2.out.below hb3)
  have HB3 := hideD (HB2.out.trans (hb3.mono z2))
  have z3 := hb3.size
  clear ho3 hb3
  go_wp2_with fail
  refine (one_any w.heap.size a len cap 4 _ hl (by omega) HS3.out).mono ?_
  rintro e w4 ⟨r4, rfl, hs4, ho4⟩
  have HO4 : Hid (OwnI w4 w2.heap.size v L) := owns_only HO3.out ho4 hB2
  have HB4 := hideD (ho4.below HB3.out (Nat.le_refl _))
  have HN := hideD (n_four w.heap.size a len cap w4 hl hs4)
  have z4 : w3.heap.size = w4.heap.size := ho4.2.2.2.1.symm
  have z24 : w2.heap.size ≤ w4.heap.size := by omega
  clear hs4 ho4 z4
  cases r4 with
  | false =>
    go_wp2_with fail
    go_ret
    exact ⟨v, L, rfl, HO4.out.mono (by omega), by have := HL.out; omega, HB4.out⟩
  | true =>
    obtain ⟨a', cap', rfl, _, _⟩ := HO4.out.ints
    go_wp2_with fail
    refine HN.out.mono ?_
    rintro e w5 ⟨j, u, rfl, hj, hc, ho5⟩
    have HO5 : Hid (OwnI w5 w2.heap.size (.slice a' L.length cap') L) := owns_only (Ze.OwnI.alloc HO4.out _) ho5 hB2
    have HB5 := hideD (ho5.below (HB4.out.alloc (by omega) _) (Nat.le_refl _))
    have z5 : w4.heap.size + 1 = w5.heap.size := by have := ho5.2.2.2.1; simp at this; omega
    have z25 : w2.heap.size ≤ w5.heap.size := by omega
    clear ho5 z5
    go_wp2_with (at_builtin; refine wpList_append_own _ rfl (.tmp 12) (.tmp 18) 23 rfl w2.heap.size 2 i1 (.int .i64 0) 1 8 Try.underlying23 hi1 hy0 hy1 hy2 rfl (by decide) _ L.length (L.map (Value.int .i64)) rfl ?own ⟨w5.heap.size, 0, none⟩ 1 1 [.int .i64 u] rfl rfl (one_newI _ _ _) (one_cellI _) (by unfold maxLen; have := HL.out; omega) (by have := HL.out; omega) (by simp; omega) ?_)
    case own => exact Ze.OwnI.alloc HO5.out _
    intro v' w6 hown' hgrow _
    have N6 : Hid (OwnI w6 w2.heap.size v' (L ++ [u])) := In.OwnI.snoc hown'
    have b6 := hideD (In.app_one HB5.out (by omega) (by omega) (HO5.out.mono (by omega)) (by exact hgrow))
    clear hown' hgrow
    go_wp2_with fail
    go_ret
    exact ⟨v', L ++ [u], rfl, N6.out.mono (by omega), by have := HL.out; simp; omega, b6.out⟩
end Go.Proofs.Ytmkpakhpjgocjaa.Dr
