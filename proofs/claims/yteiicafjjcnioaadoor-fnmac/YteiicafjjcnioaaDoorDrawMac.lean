/- The drawn keys, texts, passes and rounds of the law on macs; nothing that was there turns. -/
import Derived.Test.YteiicafjjcnioaaDoorDrawRow
import Derived.Test.YteiicafjjcnioaaDoorDrawEdge2
import Derived.BigRegion
import Derived.Deep.RegionWith
namespace Go.Proofs.YteiicafjjcnioaaDoor.Dr
open Go.RowKit

set_option maxRecDepth 100000 in
set_option maxHeartbeats 4000000 in
theorem drawDigest_any (a : Option Addr) (len cap : Nat) (w : World) (hl : len ≤ 1048576) (hr : Row w w.heap.size a len) :
    Calls Tryd.prog 22 #[.slice a len cap] w fun e w' => ∃ t : ByteArray, t.size ≤ 200 ∧ e = .returned (.string t) ∧ Below w.heap.size w w' := by
  have HR := hideD hr
  clear hr
  go_enter Tryd.func22, Tryd.ntmps22
  go_wp2_with fail
  refine (source_any a len cap _ hl HR.out).mono ?_
  rintro e w1 ⟨rfl, hs1, hb1, hz⟩
  have HB1 := hideD hb1
  have hz1 : w.heap.size ≤ w1.heap.size := hb1.size
  clear hb1
  go_wp2_with fail
  refine (n_any w.heap.size a len cap 200 _ hl (by omega) hs1).mono ?_
  rintro e w2 ⟨r, rfl, q0, q1, hs2, ho2⟩
  obtain ⟨m2, rfl⟩ := Int.eq_ofNat_of_zero_le q0
  have hm2 : m2 ≤ 200 := by omega
  have HB2 := hideD (ho2.below HB1.out (Nat.le_refl _))
  have hz2 : w.heap.size ≤ w2.heap.size := HB2.out.size
  clear ho2 hs1 q1
  go_wp2_with fail
  refine (bytes_any w.heap.size a len cap m2 _ hl (by omega) hs2).mono ?_
  rintro e w3 ⟨l2, hl2, rfl, hs3, ha3⟩
  have HB3 := hideD (ha3.below HB2.out (Nat.le_refl _) hz2)
  have hz3 : w.heap.size ≤ w3.heap.size := HB3.out.size
  obtain ⟨t2, hu2, HU2⟩ : ∃ t : ByteArray, t = ⟨l2.toArray⟩ ∧ Hid (t.size ≤ 200) := ⟨_, rfl, by
    unfold Hid
    show l2.toArray.size ≤ 200
    simp
    omega⟩
  rw [← hu2]
  clear ha3 hs2 hl2 hu2
  clear hs3
  go_wp2
  go_ret
  exact ⟨t2, HU2.out, rfl, HB3.out⟩

set_option maxRecDepth 100000 in
set_option maxHeartbeats 4000000 in
theorem drawMac_any (a : Option Addr) (len cap : Nat) (w : World) (hl : len ≤ 1048576) (hr : Row w w.heap.size a len) :
    Calls Tryd.prog 18 #[.slice a len cap] w fun e w' => ∃ t u : ByteArray, t.size ≤ 66 ∧ u.size ≤ 100 ∧ e = .returned (.tuple #[.string t, .string u]) ∧ Below w.heap.size w w' := by
  obtain ⟨i0, hi, hi0, hi1, hi2⟩ := info_parts Tryd.infoD5
  have HR := hideD hr
  clear hr
  go_enter Tryd.func18, Tryd.ntmps18
  go_wp2_with fail
  refine (source_any a len cap _ hl HR.out).mono ?_
  rintro e w1 ⟨rfl, hs1, hb1, hz⟩
  have HB1 := hideD hb1
  have hz1 : w.heap.size ≤ w1.heap.size := hb1.size
  clear hb1
  go_wp2_with fail
  refine (n_any w.heap.size a len cap 20 _ hl (by omega) hs1).mono ?_
  rintro e w2 ⟨r, rfl, q0, q1, hs2, ho2⟩
  obtain ⟨m2, rfl⟩ := Int.eq_ofNat_of_zero_le q0
  have hm2 : m2 ≤ 20 := by omega
  have HB2 := hideD (ho2.below HB1.out (Nat.le_refl _))
  have hz2 : w.heap.size ≤ w2.heap.size := HB2.out.size
  clear ho2 hs1 q1
  go_wp2_with fail
  refine (bytes_any w.heap.size a len cap m2 _ hl (by omega) hs2).mono ?_
  rintro e w3 ⟨l2, hl2, rfl, hs3, ha3⟩
  have HB3 := hideD (ha3.below HB2.out (Nat.le_refl _) hz2)
  have hz3 : w.heap.size ≤ w3.heap.size := HB3.out.size
  obtain ⟨t2, hu2, HU2⟩ : ∃ t : ByteArray, t = ⟨l2.toArray⟩ ∧ Hid (t.size ≤ 20) := ⟨_, rfl, by
    unfold Hid
    show l2.toArray.size ≤ 20
    simp
    omega⟩
  rw [← hu2]
  clear ha3 hs2 hl2 hu2
  go_wp2_with fail
  refine (one_any w.heap.size a len cap 6 _ hl (by omega) hs3).mono ?_
  rintro e w4 ⟨b, rfl, hs4, ho4⟩
  have HB4 := hideD (ho4.below HB3.out (Nat.le_refl _))
  have hz4 : w.heap.size ≤ w4.heap.size := HB4.out.size
  clear ho4 hs3
  cases b
  · clear hi hi0 hi1 hi2
    go_wp2_with fail
    refine (n_any w.heap.size a len cap 100 _ hl (by omega) hs4).mono ?_
    rintro e w5 ⟨r, rfl, q0, q1, hs5, ho5⟩
    obtain ⟨m5, rfl⟩ := Int.eq_ofNat_of_zero_le q0
    have hm5 : m5 ≤ 100 := by omega
    have HB5 := hideD (ho5.below HB4.out (Nat.le_refl _))
    have hz5 : w.heap.size ≤ w5.heap.size := HB5.out.size
    clear ho5 hs4 q1
    go_wp2_with fail
    refine (bytes_any w.heap.size a len cap m5 _ hl (by omega) hs5).mono ?_
    rintro e w6 ⟨l5, hl5, rfl, hs6, ha6⟩
    have HB6 := hideD (ha6.below HB5.out (Nat.le_refl _) hz5)
    have hz6 : w.heap.size ≤ w6.heap.size := HB6.out.size
    obtain ⟨t5, hu5, HU5⟩ : ∃ t : ByteArray, t = ⟨l5.toArray⟩ ∧ Hid (t.size ≤ 100) := ⟨_, rfl, by
      unfold Hid
      show l5.toArray.size ≤ 100
      simp
      omega⟩
    rw [← hu5]
    clear ha6 hs5 hl5 hu5
    clear hs6
    go_wp2
    go_ret2
    exact ⟨t2, t5, Nat.le_trans HU2.out (by decide), HU5.out, rfl, HB6.out⟩
  · go_wp2_with fail
    refine (n_any w.heap.size a len cap 3 _ hl (by omega) hs4).mono ?_
    rintro e w7 ⟨r, rfl, q0, q1, hs7, ho7⟩
    obtain ⟨m7, rfl⟩ := Int.eq_ofNat_of_zero_le q0
    have hm7 : m7 ≤ 3 := by omega
    have HB7 := hideD (ho7.below HB4.out (Nat.le_refl _))
    have hz7 : w.heap.size ≤ w7.heap.size := HB7.out.size
    have HS7 := hideD hs7
    clear ho7 hs4 q1 hs7
    go_wp2_with (first | (at_make; refine wpList_make_full _ rfl (.tmp 16) (.tmp 16) 22 rfl w7.heap.size 5 i0 (.int .u8 0) 1 Tryd.underlying22 hi hi0 hi1 .i64 .i64 _ _ (63 + m7) rfl rfl (by omega) (by omega) (by rw [hi2]; omega) (by unfold maxLen; omega) (Nat.le_refl _) ?_; intro w8 hown8 hgrow8; have hb8 := (Below.refl w7.heap.size w7).grown hgrow8 (Nat.le_refl _) (by simp); have hconv := zero_string (P := Tryd.prog) (src := 22) (dst := 9) (63 + m7) (by simpa using hown8) Tryd.underlying22 Tryd.underlying5 Tryd.underlying9; have HB8 := hideD (HB7.out.trans (hb8.mono hz7)); have HS8 := hideD (HS7.out.below hb8); clear hown8 hgrow8 hb8))
    have hs8 := HS8.out
    have hz8 : w.heap.size ≤ w8.heap.size := HB8.out.size
    have HZT := hideD (show (zeroS (63 + m7)).size ≤ 66 by rw [zeroS_size]; omega)
    generalize zeroS (63 + m7) = tz at HZT ⊢
    clear hi hi0 hi1 hi2
    refine (n_any w.heap.size a len cap 100 _ hl (by omega) hs8).mono ?_
    rintro e w9 ⟨r, rfl, q0, q1, hs9, ho9⟩
    obtain ⟨m9, rfl⟩ := Int.eq_ofNat_of_zero_le q0
    have hm9 : m9 ≤ 100 := by omega
    have HB9 := hideD (ho9.below HB8.out (Nat.le_refl _))
    have hz9 : w.heap.size ≤ w9.heap.size := HB9.out.size
    clear ho9 hs8 q1
    go_wp2_with fail
    refine (bytes_any w.heap.size a len cap m9 _ hl (by omega) hs9).mono ?_
    rintro e w10 ⟨l9, hl9, rfl, hs10, ha10⟩
    have HB10 := hideD (ha10.below HB9.out (Nat.le_refl _) hz9)
    have hz10 : w.heap.size ≤ w10.heap.size := HB10.out.size
    obtain ⟨t9, hu9, HU9⟩ : ∃ t : ByteArray, t = ⟨l9.toArray⟩ ∧ Hid (t.size ≤ 100) := ⟨_, rfl, by
      unfold Hid
      show l9.toArray.size ≤ 100
      simp
      omega⟩
    rw [← hu9]
    clear ha10 hs9 hl9 hu9
    clear hs10
    go_wp2
    go_ret2
    exact ⟨tz, t9, HZT.out, HU9.out, rfl, HB10.out⟩

def vals5 (v : Int) (j : Nat) : Int := [0, 1, 100, 101, v].getD j 0
theorem vals5_bd (v : Int) (h1 : -9223372036854775808 ≤ v) (h2 : v ≤ 9223372036854775807) (j : Nat) (h : j < 5) : -9223372036854775808 ≤ vals5 v j ∧ vals5 v j ≤ 9223372036854775807 := by
  obtain rfl | rfl | rfl | rfl | rfl : j = 0 ∨ j = 1 ∨ j = 2 ∨ j = 3 ∨ j = 4 := by omega
  · exact ⟨show -9223372036854775808 ≤ (0 : Int) by decide, show (0 : Int) ≤ 9223372036854775807 by decide⟩
  · exact ⟨show -9223372036854775808 ≤ (1 : Int) by decide, show (1 : Int) ≤ 9223372036854775807 by decide⟩
  · exact ⟨show -9223372036854775808 ≤ (100 : Int) by decide, show (100 : Int) ≤ 9223372036854775807 by decide⟩
  · exact ⟨show -9223372036854775808 ≤ (101 : Int) by decide, show (101 : Int) ≤ 9223372036854775807 by decide⟩
  · exact ⟨h1, h2⟩
theorem five {j : Nat} (h : (j : Int) < 5 ∨ (j : Int) = 0) : j < 5 := by omega
theorem pick5 {B : Nat} {w w' : World} {v : Int} {t : TypeId} (ho : Only B (w.alloc (.cells #[.int .i64 0, .int .i64 1, .int .i64 100, .int .i64 101, .int .i64 v] t)) w') (hB : w.heap.size ≠ B) (j : Nat) (hj : j < 5) :
    w'.cell? ⟨w.heap.size, j, none⟩ = some (.int .i64 (vals5 v j)) := by
  refine (World.cell?_of_block (w := w.alloc _) (a := ⟨w.heap.size, j, none⟩) (ho.2.2.2.2 w.heap.size hB)).trans ?_
  rw [cell_of_row _ _ j _ _ _ (heap_alloc_new w _)]
  obtain rfl | rfl | rfl | rfl | rfl : j = 0 ∨ j = 1 ∨ j = 2 ∨ j = 3 ∨ j = 4 := by omega
  all_goals rfl

theorem n_pick5 (B : Nat) (a : Option Addr) (len cap : Nat) (v : Int) (w0 w : World) (hl : len ≤ 1048576) (h1 : -9223372036854775808 ≤ v) (h2 : v ≤ 9223372036854775807) (hs : Src w B a len cap) (hb : Below B w0 w) :
    Calls Tryd.prog 65 #[.pointer (some ⟨B, 0, none⟩), .int .i64 5] (w.alloc (.cells #[.int .i64 0, .int .i64 1, .int .i64 100, .int .i64 101, .int .i64 v] 2)) fun e w' =>
      ∃ (j : Nat) (u : Int), e = .returned (.int .i64 j) ∧ (j : Int) < 5 ∧ w'.cell? ⟨w.heap.size, j, none⟩ = some (.int .i64 u) ∧ -9223372036854775808 ≤ u ∧ u ≤ 9223372036854775807 ∧ Below B w0 w' := by
  refine (n_any B a len cap 5 _ hl (by omega) (hs.below ((Below.refl _ _).alloc (Nat.le_refl _) _))).mono ?_
  rintro e wN ⟨r, rfl, x0, x1, hsN, hoN⟩
  obtain ⟨j, rfl⟩ := Int.eq_ofNat_of_zero_le x0
  have hj : j < 5 := five x1
  exact ⟨j, _, rfl, Int.ofNat_lt.2 hj, pick5 hoN (Nat.ne_of_gt hs.lt) j hj, (vals5_bd v h1 h2 j hj).1, (vals5_bd v h1 h2 j hj).2, Only.below (hb.alloc (Nat.le_of_lt hs.lt) _) hoN (Nat.le_refl _)⟩

theorem n_late5 (B : Nat) (a : Option Addr) (len cap : Nat) (v : Int) (w0 w : World) (hl : len ≤ 1048576) (h1 : -9223372036854775808 ≤ v) (h2 : v ≤ 9223372036854775807) (hs : Src w B a len cap) (hb : Below B w0 w) :
    Calls Tryd.prog 65 #[.pointer (some ⟨B, 0, none⟩), .int .i64 5] w fun e w' =>
      ∃ (j : Nat) (u : Int), e = .returned (.int .i64 j) ∧ (j : Int) < 5 ∧ (w'.alloc (.cells #[.int .i64 0, .int .i64 1, .int .i64 100, .int .i64 101, .int .i64 v] 2)).cell? ⟨w'.heap.size, j, none⟩ = some (.int .i64 u) ∧ -9223372036854775808 ≤ u ∧ u ≤ 9223372036854775807 ∧ Below B w0 w' ∧ B ≤ w'.heap.size := by
  refine (n_any B a len cap 5 _ hl (by omega) hs).mono ?_
  rintro e wN ⟨r, rfl, x0, x1, hsN, hoN⟩
  obtain ⟨j, rfl⟩ := Int.eq_ofNat_of_zero_le x0
  have hj : j < 5 := five x1
  refine ⟨j, vals5 v j, rfl, Int.ofNat_lt.2 hj, ?_, (vals5_bd v h1 h2 j hj).1, (vals5_bd v h1 h2 j hj).2, Only.below hb hoN (Nat.le_refl _), Nat.le_of_lt hsN.lt⟩
  rw [cell_of_row _ _ j _ _ _ (heap_alloc_new wN _)]
  obtain rfl | rfl | rfl | rfl | rfl : j = 0 ∨ j = 1 ∨ j = 2 ∨ j = 3 ∨ j = 4 := by omega
  all_goals rfl

set_option maxRecDepth 100000 in
set_option maxHeartbeats 4000000 in
theorem drawStretch_any (a : Option Addr) (len cap : Nat) (w : World) (hl : len ≤ 1048576) (hr : Row w w.heap.size a len) :
    Calls Tryd.prog 23 #[.slice a len cap] w fun e w' => ∃ (t : ByteArray) (r : Int), t.size ≤ 9 ∧ -9223372036854775808 ≤ r ∧ r ≤ 9223372036854775807 ∧ e = .returned (.tuple #[.string t, .int .i64 r]) ∧ Below w.heap.size w w' := by
  have HR := hideD hr
  clear hr
  go_enter Tryd.func23, Tryd.ntmps23
  go_wp2_with fail
  refine (source_any a len cap _ hl HR.out).mono ?_
  rintro e w1 ⟨rfl, hs1, hb1, hz⟩
  have HB1 := hideD hb1
  have hz1 : w.heap.size ≤ w1.heap.size := hb1.size
  clear hb1
  go_wp2_with fail
  refine (n_any w.heap.size a len cap 9 _ hl (by omega) hs1).mono ?_
  rintro e w2 ⟨r, rfl, q0, q1, hs2, ho2⟩
  obtain ⟨m2, rfl⟩ := Int.eq_ofNat_of_zero_le q0
  have hm2 : m2 ≤ 9 := by omega
  have HB2 := hideD (ho2.below HB1.out (Nat.le_refl _))
  have hz2 : w.heap.size ≤ w2.heap.size := HB2.out.size
  clear ho2 hs1 q1
  go_wp2_with fail
  refine (bytes_any w.heap.size a len cap m2 _ hl (by omega) hs2).mono ?_
  rintro e w3 ⟨l2, hl2, rfl, hs3, ha3⟩
  have HB3 := hideD (ha3.below HB2.out (Nat.le_refl _) hz2)
  have hz3 : w.heap.size ≤ w3.heap.size := HB3.out.size
  obtain ⟨t2, hu2, HU2⟩ : ∃ t : ByteArray, t = ⟨l2.toArray⟩ ∧ Hid (t.size ≤ 9) := ⟨_, rfl, by
    unfold Hid
    show l2.toArray.size ≤ 9
    simp
    omega⟩
  rw [← hu2]
  clear ha3 hs2 hl2 hu2
  go_wp2_with fail
  refine (one_any w.heap.size a len cap 6 _ hl (by omega) hs3).mono ?_
  rintro e w4 ⟨b, rfl, hs4, ho4⟩
  have HB4 := hideD (ho4.below HB3.out (Nat.le_refl _))
  have hz4 : w.heap.size ≤ w4.heap.size := HB4.out.size
  clear ho4 hs3
  cases b
  · go_wp2_with fail
    refine (n_any w.heap.size a len cap 9 _ hl (by omega) hs4).mono ?_
    rintro e w5 ⟨r, rfl, q0, q1, hs5, ho5⟩
    have hr9 : r ≤ 9 := by omega
    have HB5 := hideD (ho5.below HB4.out (Nat.le_refl _))
    clear ho5 hs4 hs5 q1
    go_wp2
    go_ret2
    exact ⟨t2, _, HU2.out, by omega, by omega, rfl, HB5.out⟩
  · go_wp2_with fail
    go_region_with (first | (go_at_call 70; refine (edge_src w.heap.size a len cap _ hl ?_).mono ?_; (· exact hs4); rintro e wE ⟨v, rfl, v1, v2, hsE, haE⟩; have HBE := hideD (haE.below HB4.out.drew (Nat.le_refl _) hz4)) | (go_at_call 65; refine (n_pick5 w.heap.size a len cap v w wE hl v1 v2 hsE HBE.out).mono ?_; rintro e wN ⟨j, u, rfl, g1, hcell, u1, u2, hbN⟩) | (go_at_call 65; refine (n_late5 w.heap.size a len cap v w wE hl v1 v2 hsE HBE.out).mono ?_; rintro e wN ⟨j, u, rfl, g1, hcell, u1, u2, hbN, hzN⟩))
    all_goals (go_wp2; go_ret2)
    all_goals first | exact ⟨t2, _, HU2.out, u1, u2, rfl, hbN⟩ | exact ⟨t2, _, HU2.out, u1, u2, rfl, hbN.alloc hzN _⟩
end Go.Proofs.YteiicafjjcnioaaDoor.Dr
