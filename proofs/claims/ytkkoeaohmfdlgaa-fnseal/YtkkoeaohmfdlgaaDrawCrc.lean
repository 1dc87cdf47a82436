/- The drawn number and text of the law on seals (spec.DrawCrcMore), and the number that the laws take of bytes (laws.lwAt). -/
import Derived.Test.YtkkoeaohmfdlgaaDrawSeal
namespace Go.Proofs.Ytkkoeaohmfdlgaa.Dr
open Go.RowKit

theorem moreV_bd (c : Int) (s : ByteArray) : 0 ≤ Cr.moreV c s ∧ Cr.moreV c s ≤ 4294967295 := by
  unfold Cr.moreV
  split
  · have := Cr.fin_lt (Cr.crcL_lt s.data.toList (Cr.fin c.toNat) (Cr.fin_lt (by omega)))
    omega
  · omega

set_option maxRecDepth 100000 in
set_option maxHeartbeats 2000000 in
theorem drawCrc_any (a : Option Addr) (len cap : Nat) (w : World) (hl : len ≤ 1048576) (hr : Row w w.heap.size a len) :
    Calls Try.prog 9 #[.slice a len cap] w fun e w' => ∃ (c : Int) (u : ByteArray), u.size ≤ 9 ∧ e = .returned (.tuple #[.int .i64 c, .string u]) ∧ Below w.heap.size w w' := by
  have HR := hideD hr
  clear hr
  go_enter Try.func9, Try.ntmps9
  go_wp2_with fail
  refine (source_any a len cap _ hl HR.out).mono ?_
  rintro e w1 ⟨rfl, hs1, hb1, hz⟩
  have HB1 := hideD hb1
  clear hb1
  go_wp2_with fail
  refine (n_any w.heap.size a len cap 9 _ hl (by omega) hs1).mono ?_
  rintro e w2 ⟨r, rfl, r0, r1, hs2, ho2⟩
  obtain ⟨m, rfl⟩ := Int.eq_ofNat_of_zero_le r0
  have hm : m ≤ 9 := by omega
  have HB2 := hideD (ho2.below HB1.out (Nat.le_refl _))
  have hz2 : w.heap.size ≤ w2.heap.size := HB2.out.size
  clear ho2 hs1 r1
  go_wp2_with fail
  refine (bytes_any w.heap.size a len cap m _ hl (by omega) hs2).mono ?_
  rintro e w3 ⟨l, hl3, rfl, hs3, ha3⟩
  have HB3 := hideD (ha3.below HB2.out (Nat.le_refl _) hz2)
  have hz3 : w.heap.size ≤ w3.heap.size := HB3.out.size
  have HL := hideD hl3
  clear ha3 hs2 hl3
  obtain ⟨u, hu⟩ : ∃ u : ByteArray, u = ⟨l.toArray⟩ := ⟨_, rfl⟩
  have HU : Hid (u.size ≤ 9) := by
    unfold Hid
    rw [hu]
    show l.toArray.size ≤ 9
    have := HL.out
    simp
    omega
  rw [← hu]
  clear hu
  go_wp2_with fail
  refine (one_any w.heap.size a len cap 5 _ hl (by omega) hs3).mono ?_
  rintro e w4 ⟨b, rfl, hs4, ho4⟩
  have HB4 := hideD (ho4.below HB3.out (Nat.le_refl _))
  have hz4 : w.heap.size ≤ w4.heap.size := HB4.out.size
  clear ho4 hs3
  cases b
  · go_wp2_with fail
    refine (n_any w.heap.size a len cap 9 _ hl (by omega) hs4).mono ?_
    rintro e w5 ⟨r, rfl, r0', r1', hs5, ho5⟩
    obtain ⟨q, rfl⟩ := Int.eq_ofNat_of_zero_le r0'
    have hq : q ≤ 9 := by omega
    have HB5 := hideD (ho5.below HB4.out (Nat.le_refl _))
    have hz5 : w.heap.size ≤ w5.heap.size := HB5.out.size
    clear ho5 hs4 r1'
    go_wp2_with fail
    refine (bytes_any w.heap.size a len cap q _ hl (by omega) hs5).mono ?_
    rintro e w6 ⟨l2, hl6, rfl, hs6, ha6⟩
    have HB6 := hideD (ha6.below HB5.out (Nat.le_refl _) hz5)
    clear ha6 hs5 hs6
    obtain ⟨t, ht⟩ : ∃ t : ByteArray, t = ⟨l2.toArray⟩ := ⟨_, rfl⟩
    have hts : t.size ≤ maxLen := by
      rw [ht]
      show l2.toArray.size ≤ maxLen
      unfold maxLen
      simp
      omega
    rw [← ht]
    clear ht hl6
    go_wp2_with fail
    refine (Cr.crc_spec0 t _ hts).mono ?_
    rintro e w' ⟨rfl, hw⟩
    subst w'
    go_wp2
    go_ret2
    exact ⟨_, u, HU.out, rfl, HB6.out⟩
  · go_wp2_with fail
    refine (edge_any w.heap.size a len cap _ hl hs4).mono ?_
    rintro e w5 ⟨v, rfl, v1, v2, ha5⟩
    have HB5 := hideD (ha5.below HB4.out (Nat.le_refl _) hz4)
    clear ha5 hs4
    go_wp2
    go_ret2
    exact ⟨v, u, HU.out, rfl, HB5.out⟩

theorem at_none (a : Option Addr) (cap : Nat) (i most : Int) (w : World) :
    Calls Try.prog 7 #[.slice a 0 cap, .int .i64 i, .int .i64 most] w fun e w' => e = .returned (.int .i64 0) ∧ w' = w := by
  by_cases h : most ≤ 1
  · go_enter Try.func7, Try.ntmps7
    go_wp2
    go_ret
    exact ⟨rfl, rfl⟩
  · go_enter Try.func7, Try.ntmps7
    go_wp2
    go_ret
    exact ⟨rfl, rfl⟩

set_option maxHeartbeats 1000000 in
/-- lwAt: some number below most (0, if most is 1 or less) -/
theorem at_any (B : Nat) (a : Option Addr) (len cap i : Nat) (most : Int) (w : World) (hl : len ≤ 1048576) (hi : i ≤ 1000) (hm : most ≤ 9223372036854775807) (hr : Row w B a len) :
    Calls Try.prog 7 #[.slice a len cap, .int .i64 i, .int .i64 most] w fun e w' => ∃ r : Int, e = .returned (.int .i64 r) ∧ 0 ≤ r ∧ (r < most ∨ r = 0) ∧ w' = w := by
  rcases hr with h0 | ⟨b, off, rfl, hlt, hc⟩
  · subst h0
    exact (at_none a cap i most w).mono fun e w' ⟨e1, e2⟩ => ⟨0, e1, Int.le_refl _, .inr rfl, e2⟩
  · by_cases h0 : len = 0
    · subst h0
      exact (at_none _ cap i most w).mono fun e w' ⟨e1, e2⟩ => ⟨0, e1, Int.le_refl _, .inr rfl, e2⟩
    · by_cases h : most ≤ 1
      · clear hc
        go_enter Try.func7, Try.ntmps7
        go_wp2
        go_ret
        exact ⟨0, rfl, Int.le_refl _, .inr rfl, rfl⟩
      · obtain ⟨z, hz, z1, z2⟩ := hc (i % len) (Nat.mod_lt _ (by omega))
        have hlb : ((len : Int) == 0) = false := beq_eq_false_iff_ne.2 (by omega)
        have g1 : (0 : Int) ≤ (i : Int) % (len : Int) := Int.emod_nonneg _ (by omega)
        have g2 : (i : Int) % (len : Int) < (len : Int) := Int.emod_lt_of_pos _ (by omega)
        have g3 : ((i : Int) % (len : Int)).toNat = i % len := by rw [← Int.natCast_emod, Int.toNat_natCast]
        have HM := hideD h
        clear hc
        go_enter Try.func7, Try.ntmps7
        go_wp2
        go_ret
        exact ⟨_, rfl, Int.emod_nonneg _ (by omega), .inl (Int.emod_lt_of_pos _ (by omega)), rfl⟩
end Go.Proofs.Ytkkoeaohmfdlgaa.Dr
