/- Texts put together: DrawBk, DrawBk2, PkImpl, PackSpec, OrdSpec, BwtSpec, ZeroSpec2. -/
import Derived.Test.YthbpenanelbbcaaGreatDoorBz39
import Derived.Test.YthbpenanelbbcaaGreatDoorBz43
import Derived.Deep.RegionWith
import Derived.BigRegion
import Derived.Test.YthbpenanelbbcaaGreatDoorBz31
import Derived.BigQuiet
import Derived.Deep.QuietTactic
import Derived.Test.YthbpenanelbbcaaGreatDoorBz23
import Derived.Test.YthbpenanelbbcaaGreatDoorBz37
import Derived.Test.YthbpenanelbbcaaGreatDoorBz35
import Derived.Test.YthbpenanelbbcaaGreatDoorBz32
import Derived.Deep.RegionHeld3
import Derived.Deep.CutRange
import Derived.Test.YthbpenanelbbcaaGreatDoorBz22
import Derived.Test.YthbpenanelbbcaaGreatDoorBz36
/- The drawn blocks and files of the law on blocks. -/
namespace Go.Proofs.YthbpenanelbbcaaGreatDoor.Dr
open Go.RowKit
open Go.Proofs.YthbpenanelbbcaaGreatDoor.Sh (made_row strF strF_size)
set_option maxHeartbeats 1000000 in
theorem drawBkPack_any (a : Option Addr) (len cap : Nat) (w : World) (hl : len ≤ 1048576) (hr : Row w w.heap.size a len) :
  Calls Tryz.prog 4 #[.slice a len cap] w fun e w' => ∃ s : ByteArray, s.size ≤ 50 ∧ e = .returned (.string s) ∧ Below w.heap.size w w' := by
 have HR := hideD hr
 clear hr
 go_enter Tryz.func4, Tryz.ntmps4
 go_wp2_with fail
 refine (source_any a len cap _ hl HR.out).mono ?_
 rintro e w1 ⟨rfl, hs1, hb1, hz⟩
 have HS1 := hideD hs1
 have HB1 := hideD hb1
 have z1 := hb1.size
 clear hs1 hb1 hz
 go_wp2_with fail
 refine (some5_any w.heap.size a len cap _ hl HS1.out).mono ?_
 rintro e w2 ⟨s, hs, rfl, hs2, ha2⟩
 have HB2 := hideD (ha2.below HB1.out (Nat.le_refl _) z1)
 clear hs2 ha2
 go_wp2_with fail
 go_ret
 exact ⟨s, hs, rfl, HB2.out⟩
theorem aft_alloc6 {B : Nat} {w W : World} (h : Aft B w W) (o : Obj) : Aft B w (W.alloc o) := h.trans (aft_below ((Below.refl _ _).alloc (Nat.le_refl _) o))
theorem aft_drew6 {B : Nat} {w W : World} (h : Aft B w W) : Aft B w W.drew := h.trans (aft_below (Below.refl _ _).drew)
theorem v4_le (j : Nat) : 0 ≤ v4 0 1 48 49 j ∧ v4 0 1 48 49 j ≤ 49 := by
 unfold v4
 split <;> (try split) <;> (try split) <;> omega
set_option maxRecDepth 100000 in
set_option maxHeartbeats 2000000 in
theorem file6_any (B : Nat) (a : Option Addr) (len cap : Nat) (w : World) (hl : len ≤ 1048576) (hs : Src w B a len cap) :
  Calls Tryz.prog 29 #[.pointer (some ⟨B, 0, none⟩)] w fun e w' => ∃ (t : ByteArray) (z : Int), t.size ≤ 1002 ∧ 0 ≤ z ∧ z ≤ 49 ∧ e = .returned (.tuple #[.string t, .int .i64 z]) ∧ Src w' B a len cap ∧ Aft B w w' := by
 obtain ⟨i0, hi0, hz0, hz1, hz2⟩ := info_parts Tryz.infoD5
 have HS := hideD hs
 clear hs
 go_enter Tryz.func29, Tryz.ntmps29
 go_wp2_with fail
 refine (n_any B a len cap 6 _ hl (by omega) HS.out).mono ?_
 rintro e w1 ⟨r, rfl, p0, p1, hs1, ho1⟩
 obtain ⟨k0, rfl⟩ := Int.eq_ofNat_of_zero_le p0
 have hk0 : k0 ≤ 5 := by omega
 have HS1 := hideD hs1
 have HA1 := hideD ho1.aft
 clear hs1 ho1 p0 p1 HS
 go_wp2_with fail
 go_loopw [5, 4] (fun kv tv wr => ∃ (k : Nat) (t : ByteArray), kv = .int .i64 k ∧ tv = .string t ∧ k ≤ 5 ∧ t.size + 32 * k ≤ 160 ∧ Src wr B a len cap ∧ Aft B w wr) (fun kv _ _ => (intOf kv).toNat)
 case atStart => exact ⟨k0, ⟨#[]⟩, rfl, rfl, hk0, by show 0 + 32 * k0 ≤ 160; omega, HS1.out, HA1.out⟩
 case round =>
  obtain ⟨k, t, rfl, rfl, hk, ht, hs2, ha2⟩ := hrel
  have HS2 := hideD hs2
  have HA2 := hideD ha2
  clear hs2 ha2 HS1 HA1
  by_cases h0 : 0 < k
  ·have h0i : 0 < (k : Int) := by omega
   go_wp2_with fail
   refine (text5_any B a len cap _ hl HS2.out).mono ?_
   rintro e w3 ⟨s, hs, rfl, hs3, ha3⟩
   have HS3 := hideD hs3
   have HA3 := hideD (HA2.out.trans ha3)
   have n1 : ¬ 9223372036854775807 < t.size + s.size := by omega
   have hts : (t ++ s).size = t.size + s.size := ByteArray.size_append
   have HTS := hideD hts
   clear hs3 ha3 hts
   go_wp2_with fail
   go_roundw
   case rel => exact ⟨k - 1, t ++ s, by go_num, rfl, by omega, by rw [HTS.out]; omega, HS3.out, HA3.out⟩
   case measure => simp [intOf]; omega
  ·obtain rfl : k = 0 := by omega
   have ht2 : t.size ≤ 1002 := by omega
   clear ht
   go_wp2_with fail
   refine (one_any B a len cap 20 _ hl (by omega) HS2.out).mono ?_
   rintro e w3 ⟨r3, rfl, hs3, ho3⟩
   have HS3 := hideD hs3
   have HA3 := hideD (HA2.out.trans ho3.aft)
   clear hs3 ho3 HS2 HA2
   cases r3 with
   | true =>
    go_wp2_with fail
    refine (n_any B a len cap 3 _ hl (by omega) HS3.out).mono ?_
    rintro e w4 ⟨r2, rfl, p0, p1, hs4, ho4⟩
    obtain ⟨m, rfl⟩ := Int.eq_ofNat_of_zero_le p0
    obtain ⟨n, hn⟩ : ∃ n : Nat, n = 999 + m := ⟨_, rfl⟩
    have en : 999 + (m : Int) = (n : Int) := by omega
    have hn50 : n ≤ 1002 := by omega
    have HS4 := hideD hs4
    have HA4 := hideD (HA3.out.trans ho4.aft)
    clear hs4 ho4 p0 p1 hn HS3 HA3
    go_wp2_with (at_make; refine wpList_make_full _ rfl (.tmp 20) (.tmp 20) 22 rfl w4.heap.size 5 i0 (.int .u8 0) 1 Tryz.underlying22 hi0 hz0 hz1 .i64 .i64 _ _ n rfl rfl (by simp) (by simp) (by rw [hz2]; omega) (by unfold maxLen; omega) (Nat.le_refl _) ?_; intro w5 hown3 hgrow3; have hT3 := made_row hown3; have hb3 := (Below.refl w4.heap.size w4).grown hgrow3 (Nat.le_refl _) (by simp); have hcv := hT3.str (f := fun _ => 0) (P := Tryz.prog) (src := 22) (dst := 9) n n (Nat.le_refl _) (fun j _ => by decide) Tryz.underlying22 Tryz.underlying5 Tryz.underlying9; have HS5 := hideD (HS4.out.below hb3); have HA5 := hideD (HA4.out.trans (aft_below hb3)); clear hown3 hgrow3 hT3 hb3)
    refine (one_any B a len cap 12 _ hl (by omega) HS5.out).mono ?_
    rintro e w6 ⟨r6, rfl, hs6, ho6⟩
    have HS6 := hideD hs6
    have HA6 := hideD (HA5.out.trans ho6.aft)
    have hBl := hs6.lt
    have hBn : ¬ w6.heap.size = B := by omega
    have hBm : ¬ B = w6.heap.size := by omega
    clear hs6 ho6
    cases r6 with
    | true =>
     go_wp2_with fail
     go_region_with (first | (go_at_call 22; (with_reducible refine (n_any B a len cap 4 _ hl (by omega) ?_).mono ?_); (· repeat (first | exact HS6.out | refine src_alloc ?_ _ | refine src_drew ?_)); rintro e w7 ⟨r7, rfl, q0, q1, hs7, ho7⟩; obtain ⟨j7, rfl⟩ := Int.eq_ofNat_of_zero_le q0; have hj7 : j7 < 4 := (by omega); have hi7 : (j7 : Int) < 4 := (by omega); have C7 := hideD hs7; have k7 := only_cell ho7; have z7 := ho7.2.2.2.1; have L7 := hideD ((show Aft B w _ from (by repeat (first | exact HA6.out | refine aft_alloc6 ?_ _ | refine aft_drew6 ?_))).trans ho7.aft); clear hs7 ho7))
     all_goals (try go_wp2_with fail)
     all_goals (try simp only [pick4])
     all_goals go_ret2
     all_goals (have hv := v4_le j7; exact ⟨_, _, (by rw [strF_size]; exact hn50), hv.1, hv.2, rfl, by repeat (first | exact C7.out | refine src_alloc ?_ _ | refine src_drew ?_), by repeat (first | exact L7.out | refine aft_alloc6 ?_ _ | refine aft_drew6 ?_)⟩)
    | false =>
     go_wp2_with fail
     refine (n_any B a len cap 24 _ hl (by omega) HS6.out).mono ?_
     rintro e w7 ⟨r7, rfl, q0, q1, hs7, ho7⟩
     have HS7 := hideD hs7
     have HA7 := hideD (HA6.out.trans ho7.aft)
     have hwr : IntKind.i64.wrap (8 + r7) = 8 + r7 := by rw [IntKind.wrap_i64]; omega
     clear hs7 ho7
     go_wp2_with fail
     go_ret2
     exact ⟨_, 8 + r7, (by rw [strF_size]; exact hn50), by omega, by omega, rfl, HS7.out, HA7.out⟩
   | false =>
    go_wp2_with fail
    refine (one_any B a len cap 12 _ hl (by omega) HS3.out).mono ?_
    rintro e w6 ⟨r6, rfl, hs6, ho6⟩
    have HS6 := hideD hs6
    have HA6 := hideD (HA3.out.trans ho6.aft)
    have hBl := hs6.lt
    have hBn : ¬ w6.heap.size = B := by omega
    have hBm : ¬ B = w6.heap.size := by omega
    clear hs6 ho6
    cases r6 with
    | true =>
     go_wp2_with fail
     go_region_with (first | (go_at_call 22; (with_reducible refine (n_any B a len cap 4 _ hl (by omega) ?_).mono ?_); (· repeat (first | exact HS6.out | refine src_alloc ?_ _ | refine src_drew ?_)); rintro e w7 ⟨r7, rfl, q0, q1, hs7, ho7⟩; obtain ⟨j7, rfl⟩ := Int.eq_ofNat_of_zero_le q0; have hj7 : j7 < 4 := (by omega); have hi7 : (j7 : Int) < 4 := (by omega); have C7 := hideD hs7; have k7 := only_cell ho7; have z7 := ho7.2.2.2.1; have L7 := hideD ((show Aft B w _ from (by repeat (first | exact HA6.out | refine aft_alloc6 ?_ _ | refine aft_drew6 ?_))).trans ho7.aft); clear hs7 ho7))
     all_goals (try go_wp2_with fail)
     all_goals (try simp only [pick4])
     all_goals go_ret2
     all_goals (have hv := v4_le j7; exact ⟨t, _, ht2, hv.1, hv.2, rfl, by repeat (first | exact C7.out | refine src_alloc ?_ _ | refine src_drew ?_), by repeat (first | exact L7.out | refine aft_alloc6 ?_ _ | refine aft_drew6 ?_)⟩)
    | false =>
     go_wp2_with fail
     refine (n_any B a len cap 24 _ hl (by omega) HS6.out).mono ?_
     rintro e w7 ⟨r7, rfl, q0, q1, hs7, ho7⟩
     have HS7 := hideD hs7
     have HA7 := hideD (HA6.out.trans ho7.aft)
     have hwr : IntKind.i64.wrap (8 + r7) = 8 + r7 := by rw [IntKind.wrap_i64]; omega
     clear hs7 ho7
     go_wp2_with fail
     go_ret2
     exact ⟨t, 8 + r7, ht2, by omega, by omega, rfl, HS7.out, HA7.out⟩
end Go.Proofs.YthbpenanelbbcaaGreatDoor.Dr


/- The drawn files, and texts that are spoiled a little. -/
namespace Go.Proofs.YthbpenanelbbcaaGreatDoor.Dr
open Go.RowKit
set_option maxHeartbeats 1000000 in
theorem drawBlocks_any (a : Option Addr) (len cap : Nat) (w : World) (hl : len ≤ 1048576) (hr : Row w w.heap.size a len) :
  Calls Tryz.prog 8 #[.slice a len cap] w fun e w' => ∃ (t : ByteArray) (z : Int), t.size ≤ 1002 ∧ 0 ≤ z ∧ z ≤ 49 ∧ e = .returned (.tuple #[.string t, .int .i64 z]) ∧ Below w.heap.size w w' := by
 have HR := hideD hr
 clear hr
 go_enter Tryz.func8, Tryz.ntmps8
 go_wp2_with fail
 refine (source_any a len cap _ hl HR.out).mono ?_
 rintro e w1 ⟨rfl, hs1, hb1, hz⟩
 have HS1 := hideD hs1
 have HB1 := hideD hb1
 have z1 := hb1.size
 clear hs1 hb1 hz
 go_wp2_with fail
 refine (file6_any w.heap.size a len cap _ hl HS1.out).mono ?_
 rintro e w2 ⟨t, z, ht, hz0, hz1, rfl, hs2, ha2⟩
 have HB2 := hideD (ha2.below HB1.out (Nat.le_refl _) z1)
 clear hs2 ha2
 go_wp2_with fail
 go_ret2
 exact ⟨t, z, ht, hz0, hz1, rfl, HB2.out⟩
set_option maxHeartbeats 1000000 in
theorem drawPieces_any (a : Option Addr) (len cap : Nat) (w : World) (hl : len ≤ 1048576) (hr : Row w w.heap.size a len) :
  Calls Tryz.prog 10 #[.slice a len cap] w fun e w' => ∃ (t : ByteArray) (z : Int), t.size ≤ 1002 ∧ 0 ≤ z ∧ z ≤ 49 ∧ e = .returned (.tuple #[.string t, .int .i64 z]) ∧ Below w.heap.size w w' := by
 have HR := hideD hr
 clear hr
 go_enter Tryz.func10, Tryz.ntmps10
 go_wp2_with fail
 refine (source_any a len cap _ hl HR.out).mono ?_
 rintro e w1 ⟨rfl, hs1, hb1, hz⟩
 have HS1 := hideD hs1
 have HB1 := hideD hb1
 have z1 := hb1.size
 clear hs1 hb1 hz
 go_wp2_with fail
 refine (file6_any w.heap.size a len cap _ hl HS1.out).mono ?_
 rintro e w2 ⟨t, z, ht, hz0, hz1, rfl, hs2, ha2⟩
 have HB2 := hideD (ha2.below HB1.out (Nat.le_refl _) z1)
 clear hs2 ha2
 go_wp2_with fail
 go_ret2
 exact ⟨t, z, ht, hz0, hz1, rfl, HB2.out⟩
theorem src_drewN {W : World} {B : Nat} {a : Option Addr} {len cap : Nat} (h : Src W B a len cap) (n : Nat) : Src (W.drewN n) B a len cap := h.below (below_drewN (Below.refl _ _) n)
theorem aft_drewN {B : Nat} {w W : World} (h : Aft B w W) (n : Nat) : Aft B w (W.drewN n) := h.trans (aft_below (below_drewN (Below.refl _ _) n))
set_option maxRecDepth 100000 in
set_option maxHeartbeats 2000000 in
theorem spoil_any (B : Nat) (a : Option Addr) (len cap : Nat) (t : ByteArray) (w : World) (hl : len ≤ 1048576) (ht : t.size ≤ 1048576) (hs : Src w B a len cap) :
  Calls Tryz.prog 23 #[.pointer (some ⟨B, 0, none⟩), .string t] w fun e w' => ∃ r : ByteArray, r.size ≤ t.size + 1 ∧ e = .returned (.string r) ∧ Src w' B a len cap ∧ Aft B w w' := by
 have HS := hideD hs
 clear hs
 have hwr : IntKind.i64.wrap ((t.size : Int) + 1) = (t.size : Int) + 1 := by rw [IntKind.wrap_i64]; omega
 go_enter Tryz.func23, Tryz.ntmps23
 go_wp2_with fail
 refine (n_any B a len cap ((t.size : Int) + 1) _ hl (by omega) HS.out).mono ?_
 rintro e w1 ⟨r, rfl, p0, p1, hs1, ho1⟩
 obtain ⟨k, rfl⟩ := Int.eq_ofNat_of_zero_le p0
 have hk : k ≤ t.size := by omega
 have HS1 := hideD hs1
 have HA1 := hideD ho1.aft
 clear hs1 ho1 p0 p1 HS
 go_wp2_with fail
 refine (n_any B a len cap 17 _ hl (by omega) HS1.out).mono ?_
 rintro e w2 ⟨r2, rfl, p0, p1, hs2, ho2⟩
 obtain ⟨j, rfl⟩ := Int.eq_ofNat_of_zero_le p0
 have hj : j < 17 := by omega
 have hji : (j : Int) < 17 := by omega
 have HS2 := hideD hs2
 have HA2 := hideD (HA1.out.trans ho2.aft)
 clear hs2 ho2 p0 p1 HS1 HA1
 have hcv := St.one_str w2 ((⟨#[32, 10, 48, 97, 45, 110, 44, 58, 93, 255, 40, 120, 126, 49, 128, 225, 59]⟩ : ByteArray)[j]'(by show j < 17; exact hj)).toNat (UInt8.toNat_lt _)
 have hz2 : w2.heap.size < (w2.alloc (.cells #[.int .u8 (((⟨#[32, 10, 48, 97, 45, 110, 44, 58, 93, 255, 40, 120, 126, 49, 128, 225, 59]⟩ : ByteArray)[j]'(by show j < 17; exact hj)).toNat : Int)] 5)).heap.size := by simp
 have HS3 := hideD (src_alloc HS2.out (.cells #[.int .u8 (((⟨#[32, 10, 48, 97, 45, 110, 44, 58, 93, 255, 40, 120, 126, 49, 128, 225, 59]⟩ : ByteArray)[j]'(by show j < 17; exact hj)).toNat : Int)] 5))
 have HA3 := hideD (aft_alloc6 HA2.out (.cells #[.int .u8 (((⟨#[32, 10, 48, 97, 45, 110, 44, 58, 93, 255, 40, 120, 126, 49, 128, 225, 59]⟩ : ByteArray)[j]'(by show j < 17; exact hj)).toNat : Int)] 5))
 clear HS2 HA2 hz2
 go_upto_region 3 with fail
 generalize hww : w2.alloc (.cells #[.int .u8 (((⟨#[32, 10, 48, 97, 45, 110, 44, 58, 93, 255, 40, 120, 126, 49, 128, 225, 59]⟩ : ByteArray)[j]'(by show j < 17; exact hj)).toNat : Int)] 5) = w3 at HS3 HA3 ⊢
 generalize hcc : (⟨#[(⟨#[32, 10, 48, 97, 45, 110, 44, 58, 93, 255, 40, 120, 126, 49, 128, 225, 59]⟩ : ByteArray)[j]'(by show j < 17; exact hj)]⟩ : ByteArray) = c
 have hcs : c.size = 1 := by rw [← hcc]; rfl
 clear hww hcc hcv
 have HCS := hideD hcs
 have s1 : (t.extract 0 k).size = k := by rw [ByteArray.size_extract]; omega
 have s2 : (t.extract k t.size).size = t.size - k := by rw [ByteArray.size_extract]; omega
 have s3 : (t.extract (k + 1) t.size).size = t.size - (k + 1) := by rw [ByteArray.size_extract]; omega
 have HZ4 : Hid ((t.extract 0 k ++ c ++ t.extract k t.size).size ≤ t.size + 1) := by unfold Hid; rw [ByteArray.size_append, ByteArray.size_append, s1, s2, hcs]; omega
 have HZ6 : Hid ((t.extract 0 k ++ t.extract (k + 1) t.size).size ≤ t.size + 1) := by unfold Hid; rw [ByteArray.size_append, s1, s3]; omega
 have HZ7 : Hid ((t.extract 0 k ++ c ++ t.extract (k + 1) t.size).size ≤ t.size + 1) := by unfold Hid; rw [ByteArray.size_append, ByteArray.size_append, s1, s3, hcs]; omega
 have hki : (k : Int) ≤ (t.size : Int) := by omega
 have m1 : ¬ 9223372036854775807 < k + c.size := by omega
 have m2 : ¬ 9223372036854775807 < k + c.size + (t.size - k) := by omega
 have m3 : ¬ 9223372036854775807 < k + (t.size - (k + 1)) := by omega
 have m4 : ¬ 9223372036854775807 < k + c.size + (t.size - (k + 1)) := by omega
 clear hcs
 by_cases hke : k = t.size
 ·have hkb : ((k : Int) == (t.size : Int)) = true := by simp; omega
  have HKE := hideD hke
  clear hke
  go_wp2_with fail
  go_quiet (fail)
  go_wp2_with fail
  go_ret
  exact ⟨_, HZ4.out, rfl, src_drewN HS3.out _, aft_drewN HA3.out _⟩
 ·have hkb : ((k : Int) == (t.size : Int)) = false := by simp; omega
  have hk1 : (k : Int) + 1 ≤ (t.size : Int) := by omega
  have hw1 : IntKind.i64.wrap ((k : Int) + 1) = (k : Int) + 1 := by rw [IntKind.wrap_i64]; omega
  go_wp2_with fail
  refine (one_any B a len cap 3 _ hl (by omega) HS3.out).mono ?_
  rintro e w4 ⟨r4, rfl, hs4, ho4⟩
  have HS4 := hideD hs4
  have HA4 := hideD (HA3.out.trans ho4.aft)
  clear hs4 ho4 HS3 HA3
  cases r4 with
  | true =>
   go_wp2_with fail
   go_quiet (fail)
   go_wp2_with fail
   go_ret
   exact ⟨_, HZ4.out, rfl, src_drewN HS4.out _, aft_drewN HA4.out _⟩
  | false =>
   go_wp2_with fail
   refine (one_any B a len cap 2 _ hl (by omega) HS4.out).mono ?_
   rintro e w5 ⟨r5, rfl, hs5, ho5⟩
   have HS5 := hideD hs5
   have HA5 := hideD (HA4.out.trans ho5.aft)
   clear hs5 ho5 HS4 HA4
   cases r5 with
   | true =>
    go_wp2_with fail
    go_quiet (fail)
    go_wp2_with fail
    go_ret
    exact ⟨_, HZ6.out, rfl, src_drewN HS5.out _, aft_drewN HA5.out _⟩
   | false =>
    go_wp2_with fail
    go_quiet (fail)
    go_wp2_with fail
    go_ret
    exact ⟨_, HZ7.out, rfl, src_drewN HS5.out _, aft_drewN HA5.out _⟩
end Go.Proofs.YthbpenanelbbcaaGreatDoor.Dr


/- The walks of shortForm and impl.BlockPack. -/
namespace Go.Proofs.YthbpenanelbbcaaGreatDoor.Pk
open Go.RowKit
open Go.Proofs.YthbpenanelbbcaaGreatDoor.St (Strs IsS)
open Go.Proofs.YthbpenanelbbcaaGreatDoor.In (Ints IsI OwnI)
open Go.Proofs.YthbpenanelbbcaaGreatDoor.Hf (up up_length)
open Go.Proofs.YthbpenanelbbcaaGreatDoor.Bi (above putR packR)
open Go.Proofs.YthbpenanelbbcaaGreatDoor.So (bwtT bwtA bwtC sOut bwt_impl)
open Go.Proofs.YthbpenanelbbcaaGreatDoor.Fr (frontR frontOf_impl frontR_len)
open Go.Proofs.YthbpenanelbbcaaGreatDoor.Ze (zerosR zerosOf_impl)
open Go.Proofs.YthbpenanelbbcaaGreatDoor.Se (sealV seal_impl)
theorem ints_keep {w w' : World} {a : Option Addr} {l : List Int} (h : Ints w w.heap.size a l) (hb : Below w.heap.size w w') : Ints w' w'.heap.size a l := (h.below hb).mono hb.size
theorem lt_blk {w : World} {g : Nat} {x : Obj} (h : w.heap[g]? = some x) : g < w.heap.size := (Array.getElem?_eq_some_iff.1 h).1
theorem blk_keep {w w' : World} {g : Nat} {x : Obj} (h : w.heap[g]? = some x) (hb : Below w.heap.size w w') : w'.heap[g]? = some x := (hb.block g (lt_blk h)).trans h
theorem low_keep {w0 w w' : World} (h : Below w0.heap.size w0 w) (hb : Below w.heap.size w w') : Below w0.heap.size w0 w' := h.trans (hb.mono h.size)
theorem ints_four {W : World} {g : Nat} {a b c d : Int} {t : TypeId} (h : W.heap[g]? = some (.cells #[.int .i64 a, .int .i64 b, .int .i64 c, .int .i64 d] t (0, 0))) : Ints W W.heap.size (some ⟨g, 0, none⟩) [a, b, c, d] :=
 .inr ⟨g, 0, rfl, lt_blk h, fun j hj => by
  rw [Nat.zero_add, cell_of_row W g j _ _ _ h]
  match j, hj with
  | 0, _ => rfl
  | 1, _ => rfl
  | 2, _ => rfl
  | 3, _ => rfl⟩
theorem strs_four {W : World} {g : Nat} {a b c d : ByteArray} {t : TypeId} (h : W.heap[g]? = some (.cells #[.string a, .string b, .string c, .string d] t (0, 0))) : Strs W W.heap.size (some ⟨g, 0, none⟩) [a, b, c, d] :=
 .inr ⟨g, 0, rfl, lt_blk h, fun j hj => by
  rw [Nat.zero_add, cell_of_row W g j _ _ _ h]
  match j, hj with
  | 0, _ => rfl
  | 1, _ => rfl
  | 2, _ => rfl
  | 3, _ => rfl⟩
theorem strs_two {W : World} {g : Nat} {a b : ByteArray} {t : TypeId} (h : W.heap[g]? = some (.cells #[.string a, .string b] t (0, 0))) : Strs W W.heap.size (some ⟨g, 0, none⟩) [a, b] :=
 .inr ⟨g, 0, rfl, lt_blk h, fun j hj => by
  rw [Nat.zero_add, cell_of_row W g j _ _ _ h]
  match j, hj with
  | 0, _ => rfl
  | 1, _ => rfl⟩
theorem cat_two (b : ByteArray) : cat [⟨#[0]⟩, b] = 0 :: b.data.toList := by
 unfold cat
 simp
theorem cat_short (b : ByteArray) : cat [⟨#[1]⟩, ⟨(numsL (headS b)).toArray⟩, ⟨(numsL (rowT (lenS b) 257)).toArray⟩, bitsS b] = shortL b := by
 unfold cat shortL
 simp
theorem packR_size (t : ByteArray) (h : t.size ≤ 4800) : (packR t).size ≤ 4800 := by
 unfold packR
 split
 ·decide
 ·unfold Bi.packV
  rw [Sh.strF_size]
  omega
theorem bitsS_size (b : ByteArray) : (bitsS b).size ≤ 4800 := packR_size _ (bits_size b)
theorem bwtA_le (b : ByteArray) (h : b.size ≤ 48) : bwtA b ≤ 48 := by
 unfold bwtA
 rw [if_pos h]
 exact Nat.le_trans (So.atK_le _ _) h
theorem headS_mem (b : ByteArray) (h : b.size ≤ 48) : ∀ x ∈ headS b, -9223372036854775808 ≤ x ∧ x ≤ 9223372036854775807 := by
 have h1 := bwtA_le b h
 have h2 := symS_len b
 have h3 := Bi.above_le (up (lenS b))
 rw [up_length, (lenS_facts b).1] at h3
 intro x hx
 unfold headS at hx
 simp only [List.mem_cons, List.not_mem_nil, or_false] at hx
 omega
theorem shortL_le (b : ByteArray) : (shortL b).length ≤ 20000 := by
 have h1 := numsL_le (headS b)
 have h2 := numsL_le (rowT (lenS b) 257)
 have h3 := rowT_length (lenS b) 257
 have h4 := bitsS_size b
 have h5 : (bitsS b).data.toList.length = (bitsS b).size := by simp
 have h6 : (headS b).length = 4 := rfl
 unfold shortL
 rw [List.length_append, List.length_append, List.length_append]
 simp only [List.length_cons, List.length_nil]
 omega
set_option maxRecDepth 100000 in
set_option maxHeartbeats 2000000 in
theorem short_impl (b : ByteArray) (w : World) (hb : b.size ≤ 48) :
  Calls Tryz.prog 20 #[.string b] w fun e w' => e = .returned (.string (shortV b)) ∧ Below w.heap.size w w' := by
 obtain ⟨hf1, hf2, _, _⟩ := lenS_facts b
 have HSM := hideP (symS_mem b)
 have hsl := symS_len b
 have C1 : Hid (∀ W, Calls Tryz.prog 41 #[.string b] W fun e w' => e = .returned (.agg #[.string (bwtT b), .int .i64 (bwtA b : Nat), .int .i64 (bwtC b : Nat)]) ∧ Below W.heap.size W w') := fun W => bwt_impl b W (by omega)
 have C2 : Hid (∀ W, Calls Tryz.prog 43 #[.string (bwtT b)] W fun e w' => ∃ v, e = .returned v ∧ OwnI w' W.heap.size v (frontR (bwtT b).data.toList) ∧ Below W.heap.size W w') := fun W => frontOf_impl (bwtT b) W (by
  have : (bwtT b).size ≤ 48 := by
   by_cases h : b.size ≤ 48
   ·unfold bwtT
    rw [if_pos h, Sh.strF_size]
    exact h
   ·omega
  omega)
 have C3 : Hid (∀ W base v, OwnI W base v (frontR (bwtT b).data.toList) → Calls Tryz.prog 42 #[v] W fun e w' => ∃ v, e = .returned v ∧ OwnI w' W.heap.size v (symS b) ∧ Below W.heap.size W w') := fun W base v h => by
  obtain ⟨x, c, rfl, _, hi⟩ := h.ints
  exact zerosOf_impl _ x c W.heap.size W hi (Nat.le_refl _) (by have := frontR_len (bwtT b).data.toList; omega)
 obtain ⟨n, hn⟩ : ∃ n, n = (symS b).length := ⟨_, rfl⟩
 have HN := hideP hn
 have C4 : Hid (∀ W x c, Ints W W.heap.size x (symS b) → Calls Tryz.prog 45 #[.slice x n c] W fun e w' => e = .returned (.slice (some ⟨W.heap.size, 0, none⟩) 257 257) ∧ Ints w' w'.heap.size (some ⟨W.heap.size, 0, none⟩) (up (countsN (symS b))) ∧ Below W.heap.size W w') := fun W x c h => by
  refine (counts_impl (symS b) x c n W h hn.symm (by omega) HSM.out).mono ?_
  rintro e w' ⟨rfl, hi, hb⟩
  exact ⟨rfl, hi.ints hi.lt, hb⟩
 have C5 : Hid (∀ W x c, Ints W W.heap.size x (up (countsN (symS b))) → Calls Tryz.prog 44 #[.slice x 257 c] W fun e w' => ∃ a c', e = .returned (.slice a 257 c') ∧ Ints w' w'.heap.size a (up (lenS b)) ∧ Below W.heap.size W w') := fun W x c h => by
  have := Hf.lengths_impl x c (up (countsN (symS b))) W h (by rw [up_length, countsN_length]; decide)
  rw [up_length, countsN_length, lens_counts] at this
  refine this.mono ?_
  rintro e w' ⟨v, rfl, ho, hb⟩
  obtain ⟨a, c', rfl, _, hi⟩ := ho.ints
  rw [up_length, hf1]
  exact ⟨a, c', rfl, hi, hb⟩
 have C6 : Hid (∀ W x c, Ints W W.heap.size x (up (lenS b)) → Calls Tryz.prog 46 #[.slice x 257 c] W fun e w' => e = .returned (.int .i64 (above (up (lenS b)) : Nat)) ∧ w' = W) := fun W x c h => by
  have := Bi.count_impl (up (lenS b)) x c W.heap.size W h (by rw [up_length, hf1]; decide)
  rw [up_length, hf1] at this
  exact this
 have C7 : Hid (∀ W x c y d, Ints W W.heap.size x (up (lenS b)) → Ints W W.heap.size y (symS b) → Calls Tryz.prog 48 #[.slice x 257 c, .slice y n d] W fun e w' => e = .returned (.string (putR (up (lenS b)) (symS b))) ∧ Below W.heap.size W w') := fun W x c y d h1 h2 => by
  have := Bi.put_impl (up (lenS b)) (symS b) x y c d W h1 h2 (by rw [up_length, hf1]; decide) (by omega)
  rw [up_length, hf1, ← hn] at this
  exact this
 have C8 : Hid (∀ W, Calls Tryz.prog 47 #[.string (putR (up (lenS b)) (symS b))] W fun e w' => e = .returned (.string (bitsS b)) ∧ Below W.heap.size W w') := fun W => Bi.pack_impl _ W (by have := bits_size b; omega)
 have C9 : Hid (∀ W g t, W.heap[g]? = some (.cells #[.int .i64 (b.size : Nat), .int .i64 (bwtA b : Nat), .int .i64 n, .int .i64 (above (up (lenS b)) : Nat)] t (0, 0)) → Calls Tryz.prog 49 #[.slice (some ⟨g, 0, none⟩) 4 4] W fun e w' => e = .returned (.string ⟨(numsL (headS b)).toArray⟩) ∧ Below W.heap.size W w') := fun W g t h => by
  have h' := ints_four h
  rw [hn] at h'
  exact nums_any (headS b) (some ⟨g, 0, none⟩) 4 4 W h' rfl (by decide) (headS_mem b hb)
 have C10 : Hid (∀ W x c, Ints W W.heap.size x (up (lenS b)) → Calls Tryz.prog 50 #[.slice x 257 c] W fun e w' => e = .returned (.string ⟨(numsL (rowT (lenS b) 257)).toArray⟩) ∧ Below W.heap.size W w') := fun W x c h => table_impl (lenS b) x c 257 W h hf1 (by decide) hf2
 have C11 : Hid (∀ W g t, W.heap[g]? = some (.cells #[.string ⟨#[1]⟩, .string ⟨(numsL (headS b)).toArray⟩, .string ⟨(numsL (rowT (lenS b) 257)).toArray⟩, .string (bitsS b)] t (0, 0)) → Calls Tryz.prog 19 #[.slice (some ⟨g, 0, none⟩) 4 4] W fun e w' => e = .returned (.string (shortV b)) ∧ Below W.heap.size W w') := fun W g t h => by
  have := join_any _ (some ⟨g, 0, none⟩) 4 4 W (strs_four h) rfl (by decide) (by rw [cat_short]; have := shortL_le b; omega)
  rw [cat_short] at this
  exact this
 rw [← hn] at hsl
 have hn' := hn
 clear hn hn' hf1 hf2 HSM
 generalize bwtC b = kC at C1
 generalize shortV b = R at C11 ⊢
 generalize (⟨(numsL (headS b)).toArray⟩ : ByteArray) = T1 at C9 C11
 generalize (⟨(numsL (rowT (lenS b) 257)).toArray⟩ : ByteArray) = T2 at C10 C11
 generalize bitsS b = T3 at C8 C11
 generalize putR (up (lenS b)) (symS b) = T0 at C7 C8
 generalize above (up (lenS b)) = kV at C6 C9
 generalize bwtA b = kA at C1 C9
 generalize bwtT b = kT at C1 C2 C3
 go_enter Tryz.func20, Tryz.ntmps20
 go_wp2_with fail
 refine (C1.out _).mono ?_
 rintro e w1 ⟨rfl, hb1⟩
 have B1 := hideP hb1
 clear hb1
 go_wp2_with fail
 have X2 : Hid ((w1.alloc (.cells #[.string kT, .int .i64 (kA : Nat), .int .i64 (kC : Nat)] 57)).heap[w1.heap.size]? = some (.cells #[.string kT, .int .i64 (kA : Nat), .int .i64 (kC : Nat)] 57 (0, 0))) := heap_alloc_new w1 _
 have B2 := hideP (B1.out.alloc B1.out.size (.cells #[.string kT, .int .i64 (kA : Nat), .int .i64 (kC : Nat)] 57))
 generalize w1.alloc (.cells #[.string kT, .int .i64 (kA : Nat), .int .i64 (kC : Nat)] 57) = w2 at X2 B2 ⊢
 generalize w1.heap.size = gx at X2 ⊢
 clear B1
 refine (C2.out _).mono ?_
 rintro e w3 ⟨v3, rfl, ho3, hb3⟩
 have X3 := hideP (blk_keep X2.out hb3)
 have B3 := hideP (low_keep B2.out hb3)
 have O3 := hideP ho3
 clear ho3 hb3 X2 B2
 go_wp2_with fail
 refine (C3.out _ _ _ O3.out).mono ?_
 rintro e w4 ⟨v4, rfl, ho4, hb4⟩
 have X4 := hideP (blk_keep X3.out hb4)
 have B4 := hideP (low_keep B3.out hb4)
 obtain ⟨ay, cy, hv4, _, hi4⟩ := ho4.ints
 rw [← HN.out] at hv4
 subst hv4
 have Y4 := hideP hi4
 clear ho4 hb4 X3 B3 O3 hi4
 go_wp2_with fail
 refine (C4.out _ _ _ Y4.out).mono ?_
 rintro e w5 ⟨rfl, hi5, hb5⟩
 have X5 := hideP (blk_keep X4.out hb5)
 have B5 := hideP (low_keep B4.out hb5)
 have Y5 := hideP (ints_keep Y4.out hb5)
 have Z5 := hideP hi5
 clear hi5 hb5 X4 B4 Y4
 go_wp2_with fail
 refine (C5.out _ _ _ Z5.out).mono ?_
 rintro e w6 ⟨az, cz, rfl, hi6, hb6⟩
 have X6 := hideP (blk_keep X5.out hb6)
 have B6 := hideP (low_keep B5.out hb6)
 have Y6 := hideP (ints_keep Y5.out hb6)
 have Z6 := hideP hi6
 clear hi6 hb6 X5 B5 Y5 Z5
 have K0 : Hid (Below w6.heap.size w6 w6.drew) := (Below.refl _ _).drew
 have CX : Hid (∀ W, Below w6.heap.size w6 W → W.cell? ⟨gx, 1, none⟩ = some (.int .i64 (kA : Nat))) := fun W h => cell_of_row W gx 1 _ _ _ (blk_keep X6.out h)
 go_upto_region 4 with fail
 go_cut [6] from 17 to 25 (fun s6 wx => ∃ g : Nat, s6 = .pointer (some ⟨g, 0, none⟩) ∧ wx.heap[g]? = some (.cells #[.int .i64 (b.size : Nat), .int .i64 (kA : Nat), .int .i64 n, .int .i64 (kV : Nat)] 63 (0, 0)) ∧ Below w6.heap.size w6 wx)
 case first =>
  have hS0 := CX.out _ K0.out
  have KA : Hid (∀ o, Below w6.heap.size w6 (w6.drew.alloc o)) := fun o => (Below.refl _ _).drew.alloc (Nat.le_refl _) o
  have KB : Hid (∀ o, Below w6.heap.size w6 (w6.alloc o).drew) := fun o => ((Below.refl _ _).alloc (Nat.le_refl _) o).drew
  go_region_held3 (fun W => W.cell? ⟨gx, 1, none⟩ = some (.int .i64 (kA : Nat))) (first | assumption | exact CX.out _ (KB.out _) | exact CX.out _ (KA.out _)) (first | (go_at_call 46; (with_reducible refine (C6.out _ _ _ ?_).mono ?_); (· first | exact ints_keep Z6.out K0.out | exact ints_keep Z6.out (KB.out _) | exact ints_keep Z6.out (KA.out _)); rintro e w7 ⟨rfl, hw7⟩; subst w7))
  all_goals (try go_wp2_with fail)
  all_goals (go_meet; exact ⟨w6.heap.size, rfl, heap_alloc_new w6 _, KB.out _⟩)
 case rest =>
  obtain ⟨g, rfl, hr, hbc⟩ := hcut
  have G0 := hideP hr
  have Y0 := hideP (ints_keep Y6.out hbc)
  have Z0 := hideP (ints_keep Z6.out hbc)
  have B0 := hideP (low_keep B6.out hbc)
  clear hr hbc CX X6 Y6 Z6 B6 K0
  go_wp2_with fail
  refine (C7.out _ _ _ _ _ Z0.out Y0.out).mono ?_
  rintro e w8 ⟨rfl, hb8⟩
  have G8 := hideP (blk_keep G0.out hb8)
  have Z8 := hideP (ints_keep Z0.out hb8)
  have B8 := hideP (low_keep B0.out hb8)
  clear hb8 G0 Y0 Z0 B0
  go_wp2_with fail
  refine (C8.out _).mono ?_
  rintro e w9 ⟨rfl, hb9⟩
  have G9 := hideP (blk_keep G8.out hb9)
  have Z9 := hideP (ints_keep Z8.out hb9)
  have B9 := hideP (low_keep B8.out hb9)
  clear hb9 G8 Z8 B8
  go_wp2_with fail
  refine (C9.out _ _ _ G9.out).mono ?_
  rintro e w10 ⟨rfl, hb10⟩
  have Z10 := hideP (ints_keep Z9.out hb10)
  have B10 := hideP (low_keep B9.out hb10)
  clear hb10 G9 Z9 B9
  go_wp2_with fail
  refine (C10.out _ _ _ Z10.out).mono ?_
  rintro e w11 ⟨rfl, hb11⟩
  have B11 := hideP (low_keep B10.out hb11)
  clear hb11 Z10 B10
  go_wp2_with fail
  have H12 : Hid ((w11.alloc (.cells #[.string ⟨#[1]⟩, .string T1, .string T2, .string T3] 9)).heap[w11.heap.size]? = some (.cells #[.string ⟨#[1]⟩, .string T1, .string T2, .string T3] 9 (0, 0))) := heap_alloc_new w11 _
  have B12 := hideP (B11.out.alloc B11.out.size (.cells #[.string ⟨#[1]⟩, .string T1, .string T2, .string T3] 9))
  refine (C11.out _ _ _ H12.out).mono ?_
  rintro e w13 ⟨rfl, hb13⟩
  have B13 := hideP (low_keep B12.out hb13)
  clear hb13
  go_wp2_with fail
  go_ret
  exact ⟨rfl, B13.out⟩
set_option maxRecDepth 100000 in
set_option maxHeartbeats 1000000 in
theorem pack_impl (b : ByteArray) (w : World) (hb : b.size ≤ 1048576) :
  Calls Tryz.prog 5 #[.string b] w fun e w' => e = .returned (.string (packB b)) ∧ Below w.heap.size w w' := by
 by_cases h48 : 48 < b.size
 ·have HR : Hid (packB b = ⟨#[]⟩) := if_pos h48
  have h48' : (48 : Int) < (b.size : Int) := by omega
  rw [HR.out]
  go_enter Tryz.func5, Tryz.ntmps5
  go_wp2_with fail
  go_ret
  exact ⟨rfl, Below.refl _ _⟩
 ·have HR : Hid (packB b = sealV (innerV b)) := if_neg h48
  have h48' : decide ((48 : Int) < (b.size : Int)) = false := by simp; omega
  have HS := hideP (fun W => short_impl b W (by omega))
  have HP : Hid (∀ W g t, W.heap[g]? = some (.cells #[.string ⟨#[0]⟩, .string b] t (0, 0)) → Calls Tryz.prog 19 #[.slice (some ⟨g, 0, none⟩) 2 2] W fun e w' => e = .returned (.string (plainV b)) ∧ Below W.heap.size W w') := fun W g t h => by
   have := join_any _ (some ⟨g, 0, none⟩) 2 2 W (strs_two h) rfl (by decide) (by rw [cat_two]; simp; omega)
   rw [cat_two] at this
   exact this
  have hps := plainV_size b
  have hss : (shortV b).size ≤ 20000 := by
   have := shortL_le b
   show (shortL b).toArray.size ≤ 20000
   rw [List.size_toArray]
   exact this
  have HSE := hideP (fun (t : ByteArray) (W : World) (h : t.size ≤ 20000) => seal_impl t W (by unfold maxLen; omega))
  have HIN : Hid (innerV b = if (shortV b).size < (plainV b).size then shortV b else plainV b) := by
   unfold Hid innerV
   rw [hps]
  rw [HR.out, HIN.out]
  clear HR HIN
  generalize shortV b = S at HS hss ⊢
  generalize plainV b = P at HP hps ⊢
  have hpz : P.size ≤ 49 := by omega
  clear hps
  by_cases hlt : S.size < P.size
  ·have hlt' : (S.size : Int) < (P.size : Int) := by omega
   rw [if_pos hlt]
   have HSE1 := hideP (fun W => HSE.out S W hss)
   generalize sealV S = R at HSE1 ⊢
   go_enter Tryz.func5, Tryz.ntmps5
   go_wp2_with fail
   have H1 : Hid ((w.alloc (.cells #[.string ⟨#[0]⟩, .string b] 9)).heap[w.heap.size]? = some (.cells #[.string ⟨#[0]⟩, .string b] 9 (0, 0))) := heap_alloc_new w _
   have B1 := hideP ((Below.refl w.heap.size w).alloc (Nat.le_refl _) (.cells #[.string ⟨#[0]⟩, .string b] 9))
   refine (HP.out _ _ _ H1.out).mono ?_
   rintro e w2 ⟨rfl, hb2⟩
   have B2 := hideP (low_keep B1.out hb2)
   clear hb2 H1 B1
   go_wp2_with fail
   refine (HS.out _).mono ?_
   rintro e w3 ⟨rfl, hb3⟩
   have B3 := hideP (low_keep B2.out hb3)
   clear hb3 B2
   go_wp2_with fail
   refine (HSE1.out _).mono ?_
   rintro e w4 ⟨rfl, hb4⟩
   have B4 := hideP (low_keep B3.out hb4)
   clear hb4
   go_wp2_with fail
   go_ret
   exact ⟨rfl, B4.out⟩
  ·have hlt' : decide ((S.size : Int) < (P.size : Int)) = false := by simp; omega
   rw [if_neg hlt]
   have HSE1 := hideP (fun W => HSE.out P W (by omega))
   generalize sealV P = R at HSE1 ⊢
   go_enter Tryz.func5, Tryz.ntmps5
   go_wp2_with fail
   have H1 : Hid ((w.alloc (.cells #[.string ⟨#[0]⟩, .string b] 9)).heap[w.heap.size]? = some (.cells #[.string ⟨#[0]⟩, .string b] 9 (0, 0))) := heap_alloc_new w _
   have B1 := hideP ((Below.refl w.heap.size w).alloc (Nat.le_refl _) (.cells #[.string ⟨#[0]⟩, .string b] 9))
   refine (HP.out _ _ _ H1.out).mono ?_
   rintro e w2 ⟨rfl, hb2⟩
   have B2 := hideP (low_keep B1.out hb2)
   clear hb2 H1 B1
   go_wp2_with fail
   refine (HS.out _).mono ?_
   rintro e w3 ⟨rfl, hb3⟩
   have B3 := hideP (low_keep B2.out hb3)
   clear hb3 B2
   go_wp2_with fail
   refine (HSE1.out _).mono ?_
   rintro e w4 ⟨rfl, hb4⟩
   have B4 := hideP (low_keep B3.out hb4)
   clear hb4
   go_wp2_with fail
   go_ret
   exact ⟨rfl, B4.out⟩
end Go.Proofs.YthbpenanelbbcaaGreatDoor.Pk


/- The walk of the specification's BitsPack, and of the law. -/
namespace Go.Proofs.YthbpenanelbbcaaGreatDoor.Bi
open Go.RowKit
open Go.Proofs.YthbpenanelbbcaaGreatDoor.Sh
open Go.Proofs.YthbpenanelbbcaaGreatDoor.Nu (ret_strJ bv own_string app_below)
def pkL (t : ByteArray) (q : Nat) : List UInt8 := (List.range q).map fun j => UInt8.ofNat (pk t j 8)
theorem pkL_length (t : ByteArray) (q : Nat) : (pkL t q).length = q := by simp [pkL]
theorem pkL_next (t : ByteArray) (q : Nat) : pkL t (q + 1) = pkL t q ++ [UInt8.ofNat (pk t q 8)] := by simp [pkL, List.range_succ]
theorem pkL_all (t : ByteArray) : (⟨(pkL t ((t.size + 7) / 8)).toArray⟩ : ByteArray) = packV t := rfl
theorem pkL_row {w : World} {B q : Nat} {e : TypeId} {v : Value} {t : ByteArray} {h : Nat} (hh : h = pk t q 8) (hr : w.ownsRow B e 1 v (q + 1) ((pkL t q).map bv ++ [.int .u8 (h : Int)])) :
  w.ownsRow B e 1 v (q + 1) ((pkL t (q + 1)).map bv) := by
 rw [pkL_next, List.map_append, List.map_singleton]
 have : bv (UInt8.ofNat (pk t q 8)) = .int .u8 (h : Int) := by
  have := pk_lt t q 8 (Nat.le_refl _)
  unfold bv
  rw [UInt8.toNat_ofNat', Nat.mod_eq_of_lt (by omega), hh]
 rw [this]
 exact hr
theorem own_len {w : World} {B m n : Nat} {e : TypeId} {v : Value} {xs : List Value} (h : w.ownsRow B e 1 v m xs) (hm : m = n) : w.ownsRow B e 1 v n xs := by rw [← hm]; exact h
set_option maxRecDepth 100000 in
set_option maxHeartbeats 2000000 in
theorem packS_yes (t : ByteArray) (w : World) (ht : ¬ 8000 < t.size) (hg : good t = true) :
    Calls Tryz.prog 96 #[.string t] w fun e w' => e = .returned (.string (packV t)) ∧ Below w.heap.size w w' := by
  obtain ⟨i0, hi, hz0, hz1, hz2⟩ := info_parts Nu.Tryz.infoJ5
  have HG := hideB (good_spec t w (by omega))
  rw [hg] at HG
  have HA := hideB (good_yes hg)
  have hd8 : decide (8000 < (t.size : Int)) = false := decide_eq_false (by omega)
  clear hg
  go_enter Tryz.func96, Tryz.ntmps96
  go_wp2_with fail
  refine HG.out.mono ?_
  rintro e w' ⟨rfl, hw⟩
  subst w'
  go_wp2_with fail
  go_loopw [4, 3] (fun i v wr => ∃ q : Nat, i = .int .i64 (8 * (q : Int)) ∧ 8 * q ≤ t.size + 7 ∧ wr.ownsRow w.heap.size 5 1 v q ((pkL t q).map bv) ∧ Below w.heap.size w wr) (fun i _ _ => t.size + 8 - (intOf i).toNat)
  case atStart => exact ⟨0, rfl, by omega, World.ownsRow_made _ _ _ (Nat.le_refl _) (by decide) rfl, (Below.refl _ _).alloc (Nat.le_refl _) _⟩
  case round =>
    obtain ⟨q, rfl, hq, hown, hbel⟩ := hrel
    have HO := hideB hown
    have GB := hideB hbel
    clear hown hbel
    by_cases hlt : 8 * q < t.size
    · have hlt' : 8 * (q : Int) < t.size := by omega
      go_wp2_with fail
      go_loopw [6, 5] (fun i v wr2 => ∃ r h : Nat, i = .int .i64 (8 * (q : Int) + r) ∧ v = .int .i64 h ∧ h = hd t q r ∧ r ≤ 8 ∧ wr2 = wr) (fun i _ _ => 8 * q + 8 - (intOf i).toNat)
      case atStart => exact ⟨0, 0, by go_num, rfl, rfl, by omega, rfl⟩
      case round =>
        obtain ⟨r, h, rfl, rfl, hh, hr, hw⟩ := hrel
        subst hw
        have HH := hideB hh
        have hle : h < 256 := by rw [hh]; exact hd_le t q r hr
        clear hh
        by_cases hr8 : r < 8
        · by_cases hin : 8 * q + r < t.size
          · obtain ⟨i, hii⟩ : ∃ i : Nat, i = 8 * q + r := ⟨_, rfl⟩
            have hiz : 8 * (q : Int) + r = i := by omega
            have hib : i < t.size := by omega
            obtain ⟨y, b0, hy⟩ := byte_at t i hib
            have h01 := HA.out i (by omega)
            rw [← hy] at h01
            have h02 : (48 : Int) ≤ y.toNat ∧ (y.toNat : Int) ≤ 49 := by omega
            have HN : Hid (2 * (h : Int) + ((y.toNat : Int) - 48) = ((hd t q (r + 1) : Nat) : Int)) := by
              unfold Hid
              simp only [hd]
              rw [← HH.out, ← hii]
              unfold one
              by_cases e : bt t i = 49
              · rw [if_pos ⟨by omega, e⟩]
                omega
              · rw [if_neg (fun x => e x.2)]
                omega
            have HI := hideB hii
            clear hy h01 hii
            rw [hiz]
            have hi8 : (i : Int) < 8 * (q : Int) + 8 := by omega
            have hit : (i : Int) < t.size := by omega
            go_wp2_with fail
            go_roundw
            case rel => exact ⟨r + 1, hd t q (r + 1), by go_num, by rw [← HN.out], rfl, by omega, trivial⟩
            case measure => simp [intOf]; omega
          · have HN : Hid (2 * (h : Int) = ((hd t q (r + 1) : Nat) : Int)) := by
              unfold Hid
              simp only [hd]
              rw [← HH.out, one_behind t _ (by omega)]
              omega
            have hit : ¬ 8 * (q : Int) + r < t.size := by omega
            go_wp2_with fail
            go_roundw
            case rel => exact ⟨r + 1, hd t q (r + 1), by go_num, by rw [← HN.out], rfl, by omega, trivial⟩
            case measure => simp [intOf]; omega
        · have HE : Hid (h = pk t q 8) := by
            unfold Hid
            rw [HH.out, show r = 8 by omega, hd_all]
          have hge : ¬ 8 * (q : Int) + r < 8 * (q : Int) + 8 := by omega
          have hown := HO.out
          have hbz := GB.out.size
          go_wp2_with (at_builtin; refine wpList_append_own _ rfl (.tmp 42) (.tmp 45) 22 rfl w.heap.size 5 i0 (.int .u8 0) 1 1 Tryz.underlying22 hi hz0 hz1 hz2 rfl (by decide) _ _ _ rfl (hown.alloc _) ⟨wr.heap.size, 0, none⟩ 1 1 [.int .u8 (h : Int)] rfl rfl ?c1 ?c2 ?c3 ?c4 ?c5 ?_)
          case c2 => rfl
          case c3 => unfold maxLen; omega
          case c4 => omega
          case c5 => omega
          intro v' w1 hown' hgrow _
          have H1 := hideB (app_below GB.out (Nat.le_refl _) HO.out hgrow)
          have R1 := hideB (pkL_row HE.out hown')
          clear hown' hgrow hown
          go_wp2_with fail
          go_roundw
          case rel => exact ⟨q + 1, by go_num, by omega, R1.out, H1.out⟩
          case measure => simp [intOf]; omega
    · have hlt' : ¬ 8 * (q : Int) < t.size := by omega
      have HQ : Hid (q = (t.size + 7) / 8) := by
        unfold Hid
        omega
      have hcv := own_string (P := Tryz.prog) (src := 22) (dst := 9) (pkL t q) (own_len HO.out (pkL_length t q).symm) Tryz.underlying22 Tryz.underlying5 Tryz.underlying9
      have HE : Hid ((⟨(pkL t q).toArray⟩ : ByteArray) = packV t) := by
        unfold Hid
        rw [HQ.out]
        exact pkL_all t
      rw [HE.out] at hcv
      go_wp2_with fail
      go_ret
      exact ⟨rfl, GB.out⟩
set_option maxHeartbeats 1000000 in
theorem pack_spec (t : ByteArray) (w : World) (ht : t.size ≤ 1048576) :
  Calls Tryz.prog 96 #[.string t] w fun e w' => e = .returned (.string (packR t)) ∧ Below w.heap.size w w' := by
 by_cases h : 8000 < t.size
 ·have HE := hideB (packR_no t (Or.inl h))
  go_enter Tryz.func96, Tryz.ntmps96
  go_wp2_with fail
  go_ret
  exact ⟨ret_strJ HE.out.symm, Below.refl _ _⟩
 ·cases hg : good t with
  | false =>
   have HE := hideB (packR_no t (Or.inr hg))
   have HG := hideB (good_spec t w (by omega))
   rw [hg] at HG
   go_enter Tryz.func96, Tryz.ntmps96
   go_wp2_with fail
   refine HG.out.mono ?_
   rintro e w' ⟨rfl, hw⟩
   subst w'
   go_wp2_with fail
   go_ret
   exact ⟨ret_strJ HE.out.symm, Below.refl _ _⟩
  | true =>
   rw [packR_yes t h hg]
   exact packS_yes t w h hg
end Go.Proofs.YthbpenanelbbcaaGreatDoor.Bi


/- What the specification's OrderOf answers. -/
namespace Go.Proofs.YthbpenanelbbcaaGreatDoor.So
open Go.RowKit
open Go.Proofs.YthbpenanelbbcaaGreatDoor.In (OwnI IsO one_newI one_cellI)
open Go.Proofs.YthbpenanelbbcaaGreatDoor.In.Tryz (infoI2)
open Go.Proofs.YthbpenanelbbcaaGreatDoor.Ze (own_some own_news own_cells)
set_option maxHeartbeats 1000000 in
theorem turn_spec (t : ByteArray) (k : Nat) (w : World) (ht : t.size ≤ 1048576) (hk : k ≤ t.size) :
  Calls Tryz.prog 149 #[.string t, .int .i64 k] w fun e w' => e = .returned (.string (turnV t k)) ∧ ∃ q, w' = w.drewN q := by
 have mixed := mixed
 unfold turnV
 have hq0 : (t.extract k t.size).size + (t.extract 0 k).size ≤ 9223372036854775807 := by simp; omega
 have hle : (k : Int) ≤ (t.size : Int) := by omega
 have hge : ¬ (t.size : Int) < (k : Int) := by omega
 go_enter Tryz.func149, Tryz.ntmps149
 go_wp2_with fail
 go_quiet (fail)
 go_wp2_with fail
 go_ret
 exact ⟨rfl, nq, rfl⟩
theorem below_drewN {B : Nat} {w w' : World} (h : Below B w w') (n : Nat) : Below B w (w'.drewN n) := ⟨h.os, h.tape, h.output, h.size, h.block⟩
theorem own_drewN {w : World} {base : Nat} {v : Value} {l : List Int} (h : OwnI w base v l) (n : Nat) : OwnI (w.drewN n) base v l :=
 h.below (below_drewN (Below.refl _ _) n)
theorem isO_take {w : World} {g : Nat} {l : List Nat} (h : IsO w g 2 (ints l)) (p : Nat) : IsO w g 2 (ints (l.take p)) := by
 obtain ⟨cur, hb, hc⟩ := h
 refine ⟨cur, hb, fun j hj => ?_⟩
 have hj2 : j < min p l.length := by simpa [ints] using hj
 have hj' : j < p ∧ j < l.length := by omega
 have := hc j (by rw [ints_len]; exact hj'.2)
 simpa [ints] using this
theorem isO_drop {w : World} {g : Nat} {l : List Nat} (h : IsO w g 2 (ints l)) (p : Nat) : ∀ (j : Nat) (u : Value), ((ints (l.drop p)).map (Value.int .i64))[j]? = some u → w.cell? ((⟨g, p, none⟩ : Addr).add j) = some u := by
 intro j u hj
 have hadd : (⟨g, p, none⟩ : Addr).add j = ⟨g, p + j, none⟩ := by unfold Addr.add; split <;> simp_all
 rw [hadd]
 simp only [ints, List.getElem?_map, List.getElem?_drop] at hj
 cases hl : l[p + j]? with
 | none => rw [hl] at hj; cases hj
 | some x =>
  rw [hl] at hj
  obtain ⟨hlt, hx⟩ := List.getElem?_eq_some_iff.1 hl
  rw [h.cell (j := p + j) (by rw [ints_len]; exact hlt)]
  simp [ints, hx] at hj ⊢
  exact hj
theorem block_spec (t : ByteArray) (w : World) (hn : t.size ≤ 1048576) : Calls Tryz.prog 31 #[.string t] w fun e w' => e = .returned (.bool (decide (t.size ≤ 48))) ∧ w' = w := by
 by_cases h : t.size ≤ 48
 ·rw [decide_eq_true h]
  have h' : (t.size : Int) ≤ 48 := by omega
  go_enter Tryz.func31, Tryz.ntmps31
  go_wp2_with fail
  go_ret
  exact ⟨rfl, rfl⟩
 ·rw [decide_eq_false h]
  have h' : decide ((t.size : Int) ≤ 48) = false := decide_eq_false (by omega)
  go_enter Tryz.func31, Tryz.ntmps31
  go_wp2_with fail
  go_ret
  exact ⟨rfl, rfl⟩
theorem own_ne {w : World} {base : Nat} {v : Value} {l : List Int} (h : OwnI w base v l) (hl : 0 < l.length) : v ≠ .slice none 0 0 := by
 rcases h.split with ⟨_, rfl⟩ | ⟨g, cap, rfl, _⟩
 ·simp at hl
 ·simp
set_option maxRecDepth 100000 in
set_option maxHeartbeats 2000000 in
theorem order_spec (t : ByteArray) (w : World) (ht : t.size ≤ 48) :
    Calls Tryz.prog 126 #[.string t] w fun e w' => ∃ v l, e = .returned v ∧ OwnI w' w.heap.size v (ints l) ∧ OrdOk t l ∧ v ≠ .slice none 0 0 ∧ Below w.heap.size w w' := by
  have mixed := mixed
  obtain ⟨i0, hi0, hz0, hz1, hz2⟩ := info_parts infoI2
  have HW := hideO (Ze.OwnI.empty w)
  have HT := hideO (fun (k : Nat) (W : World) (hk : k ≤ t.size) => turn_spec t k W (by omega) hk)
  have htz : (t.size : Int) ≤ 48 := by omega
  go_enter Tryz.func126, Tryz.ntmps126
  go_wp2_with fail
  go_loopw [4, 3] (fun i u wr => ∃ (k : Nat) (l : List Nat), i = .int .i64 k ∧ k ≤ t.size ∧ l.Perm (List.range k) ∧ l.Pairwise (lx (clT (turnV t))) ∧ OwnI wr w.heap.size u (ints l) ∧ u ≠ .slice none 0 0 ∧ Below w.heap.size w wr) (fun i _ _ => t.size - (intOf i).toNat)
  case atStart => exact ⟨0, [], rfl, Nat.zero_le _, List.Perm.refl _, List.Pairwise.nil, HW.out, by simp, (Below.refl _ _).alloc (Nat.le_refl _) _⟩
  case round =>
    obtain ⟨k, l, rfl, hk, hp, hs, hown, hne, hbel⟩ := hrel
    have HP := hideO hp
    have HS := hideO hs
    have GB := hideO hbel
    have hsz := hbel.size
    have hlk : l.length = k := by have := hp.length_eq; simpa using this
    have HL := hideO hlk
    have G1 := hideO hown
    obtain ⟨g, cap, rfl, hg, hgl, ho⟩ := own_some hown hne
    rw [ints_len, hlk] at G1 ⊢
    have HO := hideO ho
    have hcap : k ≤ cap := by
      obtain ⟨_, h⟩ := hown
      rcases h with ⟨h, _⟩ | ⟨g', cap', cur, hv, _, _, hle, _⟩
      · cases h
      · simp at hv
        rw [ints_len, hlk] at hle
        omega
    have hcm : cap ≤ maxLen := by
      obtain ⟨_, h⟩ := hown
      rcases h with ⟨h, _⟩ | ⟨g', cap', cur, hv, _, _, _, hle, _⟩
      · cases h
      · simp at hv
        omega
    clear hown hne hbel hp hs ho hlk
    by_cases hlt : k < t.size
    · have hlt' : (k : Int) < (t.size : Int) := by omega
      obtain ⟨wo, hwo⟩ : ∃ wo, wo = wr := ⟨_, rfl⟩
      subst hwo
      go_wp2_with fail
      go_loopw [5] (fun i wr2 => ∃ (p q : Nat), i = .int .i64 p ∧ p ≤ k ∧ (∀ j (h : j < l.length), p ≤ j → clT (turnV t) k l[j] = true) ∧ wr2 = wo.drewN q) (fun i _ => (intOf i).toNat)
      case atStart => exact ⟨k, 0, rfl, Nat.le_refl _, fun j h1 h2 => absurd h1 (by have := HL.out; omega), rfl⟩
      case round =>
        obtain ⟨p, q, rfl, hpk, hhi, hwr⟩ := hrel
        have HHI := hideO hhi
        have HWR := hideO hwr
        have hO2 : IsO wr g 2 (ints l) := by rw [hwr]; exact HO.out.of_heap rfl
        clear hhi hwr
        by_cases hp0 : 0 < p
        · obtain ⟨pp, hpp⟩ : ∃ pp, p = pp + 1 := ⟨p - 1, by omega⟩
          have hppl : pp < l.length := by have := HL.out; omega
          have c0 := hO2.cell (j := pp) (by rw [ints_len]; exact hppl)
          have ey : (ints l)[pp]'(by rw [ints_len]; exact hppl) = ((l[pp] : Nat) : Int) := by simp [ints]
          rw [ey] at c0
          have hyk : l[pp] < k := by
            have := HP.out.mem_iff.1 (List.getElem_mem hppl)
            simpa using this
          obtain ⟨y, hy⟩ : ∃ y, y = l[pp] := ⟨_, rfl⟩
          rw [← hy] at c0 hyk
          have c1 := fun n' => (show (wr.drewN n').cell? ⟨g, pp, none⟩ = some (.int .i64 (y : Nat)) from c0)
          have HTK := hideO (fun W => HT.out k W (by omega))
          have HTY := hideO (fun W => HT.out y W (by omega))
          have HCL : Hid (Op.bytesLess (turnV t k).toList (turnV t y).toList = clT (turnV t) k y) := rfl
          have e1 : (p : Int) - 1 = (pp : Int) := by omega
          have hwp : IntKind.i64.wrap (pp : Int) = (pp : Int) := by rw [IntKind.wrap_i64]; omega
          have hpz : (pp : Int) < (k : Int) := by omega
          have hp0' : (0 : Int) < (p : Int) := by omega
          have hpd : decide ((0 : Int) < (p : Int)) = true := decide_eq_true hp0'
          have HPP := hideO hpp
          have HY := hideO hy
          generalize turnV t k = A at HTK HCL
          generalize turnV t y = B at HTY HCL
          clear c0 ey hpp hy hO2
          cases hcb : clT (turnV t) k y with
          | true =>
            have hbl : Op.bytesLess A.toList B.toList = true := HCL.out.trans hcb
            have HC2 : Hid (∀ j (h : j < l.length), pp ≤ j → clT (turnV t) k l[j] = true) := fun j h1 h2 => by
              rcases Nat.eq_or_lt_of_le h2 with e | e
              · subst e
                rw [← HY.out]
                exact hcb
              · exact HHI.out j h1 (by have := HPP.out; omega)
            go_wp2_with fail
            go_quiet (first | (go_at_call 149; (with_reducible refine Calls.quiet_of (HTK.out _))) | (go_at_call 149; (with_reducible refine Calls.quiet_of (HTY.out _))))
            all_goals (try go_wp2_with fail)
            go_roundw
            case rel => exact ⟨pp, q + nq, rfl, by omega, HC2.out, by rw [HWR.out]; exact World.drewN_drewN _ _ _⟩
            case measure => have := HPP.out; simp [intOf]; omega
          | false =>
            have hbl : Op.bytesLess A.toList B.toList = false := HCL.out.trans hcb
            go_wp2_with fail
            go_quiet (first | (go_at_call 149; (with_reducible refine Calls.quiet_of (HTK.out _))) | (go_at_call 149; (with_reducible refine Calls.quiet_of (HTY.out _))))
            have HQ := hideO (ord_put (clT_weak (turnV t)) HP.out HS.out (show p ≤ l.length by have := HL.out; omega) HHI.out (by
              have := HPP.out
              exact Or.inr ⟨by omega, by
                have e : l[p - 1]'(by omega) = y := by rw [HY.out]; congr 1; omega
                rw [e]
                exact hcb⟩))
            have G4 := hideO (own_drewN G1.out (q + nq))
            have O4 : Hid (IsO (wo.drewN (q + nq)) g 2 (ints l)) := HO.out.of_heap rfl
            have B4 := hideO (below_drewN GB.out (q + nq))
            have hW : wr.drewN nq = wo.drewN (q + nq) := by rw [HWR.out]; exact World.drewN_drewN _ _ _
            have z4 : g < (wo.drewN (q + nq)).heap.size := hgl
            have zs4 : w.heap.size ≤ (wo.drewN (q + nq)).heap.size := hsz
            rw [hW]
            clear hW
            generalize wo.drewN (q + nq) = W at G4 O4 B4 z4 zs4 ⊢
            have HEM := hideO (Ze.OwnI.empty W)
            have HTA : Hid ((ints l).length = k) := by
              unfold Hid
              rw [ints_len, HL.out]
            have hpc : (p : Int) ≤ (cap : Int) := by omega
            have hpk' : (p : Int) ≤ (k : Int) := by omega
            go_wp2_with (at_builtin; refine wpList_append_own _ rfl (.tmp 33) (.tmp 36) 59 rfl W.heap.size 2 i0 (.int .i64 0) 1 8 Tryz.underlying59 hi0 hz0 hz1 hz2 rfl (by decide) _ 0 [] rfl HEM.out ⟨g, 0, none⟩ p cap ((ints (l.take p)).map (Value.int .i64)) rfl ?len1 ?new1 (own_cells _) (by unfold maxLen; omega) (by omega) (by simp) ?_)
            case len1 => simp [ints_len]; have := HL.out; omega
            case new1 => exact own_news (isO_take (O4.out.below ((Below.refl _ W).alloc (Nat.le_refl _) _) z4) p)
            intro v1 w1 hown1 hgrow1 _
            have HO1 : Hid (OwnI w1 W.heap.size v1 (ints (l.take p))) := by
              have e : (ints (l.take p)).length = p := by simp [ints_len]; have := HL.out; omega
              unfold Hid OwnI
              rw [e]
              exact hown1
            have hb1 : Below W.heap.size W w1 := ((Below.refl W.heap.size W).alloc (Nat.le_refl _) _).grown hgrow1 (by simp) (fun k hk => by simp [Value.ownBlock] at hk; omega)
            have z1 := hb1.size
            have O1 := hideO (O4.out.below hb1 z4)
            have B1 := hideO hb1
            clear hown1 hgrow1 hb1
            have HLT : Hid ((ints (l.take p)).length = p) := by
              unfold Hid
              simp [ints_len]
              have := HL.out
              omega
            go_wp2_with (at_builtin; refine wpList_append_own _ rfl (.tmp 38) (.tmp 40) 59 rfl W.heap.size 2 i0 (.int .i64 0) 1 8 Tryz.underlying59 hi0 hz0 hz1 hz2 rfl (by decide) _ _ _ rfl (Ze.OwnI.alloc HO1.out _) ⟨w1.heap.size, 0, none⟩ 1 1 [.int .i64 (k : Nat)] rfl rfl (one_newI _ _ _) (one_cellI _) (by rw [HLT.out]; unfold maxLen; omega) (by rw [HLT.out]; omega) (by simp; omega) ?_)
            intro v2 w2 hown2 hgrow2 _
            have HO2 : Hid (OwnI w2 W.heap.size v2 (ints (l.take p ++ [k]))) := by
              unfold Hid
              rw [ints_snoc]
              exact In.OwnI.snoc hown2
            have hb2 := In.app_one B1.out z1 (Nat.le_refl _) HO1.out hgrow2
            have z2 := hb2.size
            have O2 := hideO (O4.out.below hb2 z4)
            have B2 := hideO hb2
            clear hown2 hgrow2 hb2 B1 O1
            have HLT2 : Hid ((ints (l.take p ++ [k])).length = p + 1) := by
              unfold Hid
              simp [ints_len]
              have := HL.out
              omega
            have HLD : Hid ((ints (l.drop p)).length = k - p) := by
              unfold Hid
              simp [ints_len, HL.out]
            have HFIN : Hid (∀ v3 w3, w3.ownsRow W.heap.size 2 1 v3 (p + 1 + (k - p)) ((ints (l.take p ++ [k])).map (Value.int .i64) ++ (ints (l.drop p)).map (Value.int .i64)) → OwnI w3 W.heap.size v3 (ints (l.take p ++ [k] ++ l.drop p))) := fun v3 w3 h => by
              have e : ints (l.take p ++ [k] ++ l.drop p) = ints (l.take p ++ [k]) ++ ints (l.drop p) := by simp [ints]
              rw [e]
              apply Ze.OwnI.joined
              rw [HLT2.out, HLD.out]
              exact h
            have HOW2 : Hid (w2.ownsRow W.heap.size 2 1 v2 (p + 1) ((ints (l.take p ++ [k])).map (Value.int .i64))) := by
              have := HO2.out
              unfold OwnI at this
              rw [HLT2.out] at this
              exact this
            have hv2 : v2 ≠ .slice none 0 0 := own_ne HO2.out (by rw [HLT2.out]; omega)
            by_cases hkp : p = k
            · have HD0 : Hid (ints (l.drop p) = []) := by
                unfold Hid
                rw [hkp, ← HL.out, List.drop_length]
                rfl
              subst hkp
              by_cases hcp : cap = p
              · subst hcp
                go_wp2_with (at_builtin; refine wpList_append_own _ rfl (.tmp 42) (.tmp 45) 59 rfl W.heap.size 2 i0 (.int .i64 0) 1 8 Tryz.underlying59 hi0 hz0 hz1 hz2 rfl (by decide) _ _ _ rfl HOW2.out _ 0 _ [] rfl rfl (by intro j u hj; simp at hj) (by intro u hu; simp at hu) (by unfold maxLen; omega) (by omega) (by omega) ?_)
                intro v3 w3 hown3 hgrow3 _
                have HO3 := hideO (HFIN.out v3 w3 (by rw [HD0.out, Nat.sub_self, List.map_nil, List.append_nil]; exact hown3))
                have HN3 := hideO (own_ne HO3.out (by simp [ints_len]; omega))
                have hb3 := hideO (Ze.app_row B2.out z2 (Nat.le_refl _) HO2.out hgrow3)
                clear hown3 hgrow3
                go_wp2_with fail
                go_roundw
                case rel => exact ⟨cap + 1, _, by go_num, by omega, HQ.out.1, HQ.out.2, HO3.out.mono zs4, HN3.out, B4.out.trans (hb3.out.mono zs4)⟩
                case measure => simp [intOf]; omega
              · have hcp1 : ¬ (cap : Int) = (p : Int) := by omega
                have hcp2 : p < cap := by omega
                go_wp2_with (at_builtin; refine wpList_append_own _ rfl (.tmp 42) (.tmp 45) 59 rfl W.heap.size 2 i0 (.int .i64 0) 1 8 Tryz.underlying59 hi0 hz0 hz1 hz2 rfl (by decide) _ _ _ rfl HOW2.out _ 0 _ [] rfl rfl (by intro j u hj; simp at hj) (by intro u hu; simp at hu) (by unfold maxLen; omega) (by omega) (by omega) ?_)
                intro v3 w3 hown3 hgrow3 _
                have HO3 := hideO (HFIN.out v3 w3 (by rw [HD0.out, Nat.sub_self, List.map_nil, List.append_nil]; exact hown3))
                have HN3 := hideO (own_ne HO3.out (by simp [ints_len]; omega))
                have hb3 := hideO (Ze.app_row B2.out z2 (Nat.le_refl _) HO2.out hgrow3)
                clear hown3 hgrow3
                go_wp2_with fail
                go_roundw
                case rel => exact ⟨p + 1, _, by go_num, by omega, HQ.out.1, HQ.out.2, HO3.out.mono zs4, HN3.out, B4.out.trans (hb3.out.mono zs4)⟩
                case measure => simp [intOf]; omega
            · have hpk2 : p < k := by omega
              have hcp0 : ¬ cap = p := by omega
              have hcp1 : ¬ (cap : Int) = (p : Int) := by omega
              obtain ⟨dl, hdl⟩ : ∃ dl, dl = k - p := ⟨_, rfl⟩
              have edl : (k : Int) - (p : Int) = (dl : Int) := by omega
              have edl2 : k - p = dl := hdl.symm
              rw [← hdl] at HFIN HLD
              clear hkp hdl
              go_wp2_with (at_builtin; refine wpList_append_own _ rfl (.tmp 42) (.tmp 45) 59 rfl W.heap.size 2 i0 (.int .i64 0) 1 8 Tryz.underlying59 hi0 hz0 hz1 hz2 rfl (by decide) _ _ _ rfl HOW2.out ⟨g, p, none⟩ dl _ ((ints (l.drop p)).map (Value.int .i64)) rfl ?len3 ?new3 (own_cells _) ?c31 ?c32 (by omega) ?_)
              case len3 => rw [List.length_map, HLD.out, Nat.mul_one]
              case new3 => exact isO_drop O2.out p
              case c31 => have := HLD.out; unfold maxLen; omega
              case c32 => have := HLD.out; omega
              intro v3 w3 hown3 hgrow3 _
              have HO3 := hideO (HFIN.out v3 w3 hown3)
              have HN3 := hideO (own_ne HO3.out (by simp [ints_len]; omega))
              have hb3 := hideO (Ze.app_row B2.out z2 (Nat.le_refl _) HO2.out hgrow3)
              clear hown3 hgrow3
              go_wp2_with fail
              go_roundw
              case rel => exact ⟨k + 1, _, by go_num, by omega, HQ.out.1, HQ.out.2, HO3.out.mono zs4, HN3.out, B4.out.trans (hb3.out.mono zs4)⟩
              case measure => simp [intOf]; omega
        · have hpd : decide ((0 : Int) < (p : Int)) = false := decide_eq_false (by omega)
          have hpn : ¬ (0 : Int) < (p : Int) := by omega
          clear hO2
          go_wp2_with fail
          go_quiet (fail)
          have HQ := hideO (ord_put (clT_weak (turnV t)) HP.out HS.out (show p ≤ l.length by have := HL.out; omega) HHI.out (by exact Or.inl (by omega)))
          have G4 := hideO (own_drewN G1.out (q + nq))
          have O4 : Hid (IsO (wo.drewN (q + nq)) g 2 (ints l)) := HO.out.of_heap rfl
          have B4 := hideO (below_drewN GB.out (q + nq))
          have hW : wr.drewN nq = wo.drewN (q + nq) := by rw [HWR.out]; exact World.drewN_drewN _ _ _
          have z4 : g < (wo.drewN (q + nq)).heap.size := hgl
          have zs4 : w.heap.size ≤ (wo.drewN (q + nq)).heap.size := hsz
          rw [hW]
          clear hW
          generalize wo.drewN (q + nq) = W at G4 O4 B4 z4 zs4 ⊢
          have HEM := hideO (Ze.OwnI.empty W)
          have HTA : Hid ((ints l).length = k) := by
            unfold Hid
            rw [ints_len, HL.out]
          have hpc : (p : Int) ≤ (cap : Int) := by omega
          have hpk' : (p : Int) ≤ (k : Int) := by omega
          go_wp2_with (at_builtin; refine wpList_append_own _ rfl (.tmp 33) (.tmp 36) 59 rfl W.heap.size 2 i0 (.int .i64 0) 1 8 Tryz.underlying59 hi0 hz0 hz1 hz2 rfl (by decide) _ 0 [] rfl HEM.out ⟨g, 0, none⟩ p cap ((ints (l.take p)).map (Value.int .i64)) rfl ?len1 ?new1 (own_cells _) (by unfold maxLen; omega) (by omega) (by simp) ?_)
          case len1 => simp [ints_len]; have := HL.out; omega
          case new1 => exact own_news (isO_take (O4.out.below ((Below.refl _ W).alloc (Nat.le_refl _) _) z4) p)
          intro v1 w1 hown1 hgrow1 _
          have HO1 : Hid (OwnI w1 W.heap.size v1 (ints (l.take p))) := by
            have e : (ints (l.take p)).length = p := by simp [ints_len]; have := HL.out; omega
            unfold Hid OwnI
            rw [e]
            exact hown1
          have hb1 : Below W.heap.size W w1 := ((Below.refl W.heap.size W).alloc (Nat.le_refl _) _).grown hgrow1 (by simp) (fun k hk => by simp [Value.ownBlock] at hk; omega)
          have z1 := hb1.size
          have O1 := hideO (O4.out.below hb1 z4)
          have B1 := hideO hb1
          clear hown1 hgrow1 hb1
          have HLT : Hid ((ints (l.take p)).length = p) := by
            unfold Hid
            simp [ints_len]
            have := HL.out
            omega
          go_wp2_with (at_builtin; refine wpList_append_own _ rfl (.tmp 38) (.tmp 40) 59 rfl W.heap.size 2 i0 (.int .i64 0) 1 8 Tryz.underlying59 hi0 hz0 hz1 hz2 rfl (by decide) _ _ _ rfl (Ze.OwnI.alloc HO1.out _) ⟨w1.heap.size, 0, none⟩ 1 1 [.int .i64 (k : Nat)] rfl rfl (one_newI _ _ _) (one_cellI _) (by rw [HLT.out]; unfold maxLen; omega) (by rw [HLT.out]; omega) (by simp; omega) ?_)
          intro v2 w2 hown2 hgrow2 _
          have HO2 : Hid (OwnI w2 W.heap.size v2 (ints (l.take p ++ [k]))) := by
            unfold Hid
            rw [ints_snoc]
            exact In.OwnI.snoc hown2
          have hb2 := In.app_one B1.out z1 (Nat.le_refl _) HO1.out hgrow2
          have z2 := hb2.size
          have O2 := hideO (O4.out.below hb2 z4)
          have B2 := hideO hb2
          clear hown2 hgrow2 hb2 B1 O1
          have HLT2 : Hid ((ints (l.take p ++ [k])).length = p + 1) := by
            unfold Hid
            simp [ints_len]
            have := HL.out
            omega
          have HLD : Hid ((ints (l.drop p)).length = k - p) := by
            unfold Hid
            simp [ints_len, HL.out]
          have HFIN : Hid (∀ v3 w3, w3.ownsRow W.heap.size 2 1 v3 (p + 1 + (k - p)) ((ints (l.take p ++ [k])).map (Value.int .i64) ++ (ints (l.drop p)).map (Value.int .i64)) → OwnI w3 W.heap.size v3 (ints (l.take p ++ [k] ++ l.drop p))) := fun v3 w3 h => by
            have e : ints (l.take p ++ [k] ++ l.drop p) = ints (l.take p ++ [k]) ++ ints (l.drop p) := by simp [ints]
            rw [e]
            apply Ze.OwnI.joined
            rw [HLT2.out, HLD.out]
            exact h
          have HOW2 : Hid (w2.ownsRow W.heap.size 2 1 v2 (p + 1) ((ints (l.take p ++ [k])).map (Value.int .i64))) := by
            have := HO2.out
            unfold OwnI at this
            rw [HLT2.out] at this
            exact this
          have hv2 : v2 ≠ .slice none 0 0 := own_ne HO2.out (by rw [HLT2.out]; omega)
          by_cases hkp : p = k
          · have HD0 : Hid (ints (l.drop p) = []) := by
              unfold Hid
              rw [hkp, ← HL.out, List.drop_length]
              rfl
            subst hkp
            by_cases hcp : cap = p
            · subst hcp
              go_wp2_with (at_builtin; refine wpList_append_own _ rfl (.tmp 42) (.tmp 45) 59 rfl W.heap.size 2 i0 (.int .i64 0) 1 8 Tryz.underlying59 hi0 hz0 hz1 hz2 rfl (by decide) _ _ _ rfl HOW2.out _ 0 _ [] rfl rfl (by intro j u hj; simp at hj) (by intro u hu; simp at hu) (by unfold maxLen; omega) (by omega) (by omega) ?_)
              intro v3 w3 hown3 hgrow3 _
              have HO3 := hideO (HFIN.out v3 w3 (by rw [HD0.out, Nat.sub_self, List.map_nil, List.append_nil]; exact hown3))
              have HN3 := hideO (own_ne HO3.out (by simp [ints_len]; omega))
              have hb3 := hideO (Ze.app_row B2.out z2 (Nat.le_refl _) HO2.out hgrow3)
              clear hown3 hgrow3
              go_wp2_with fail
              go_roundw
              case rel => exact ⟨cap + 1, _, by go_num, by omega, HQ.out.1, HQ.out.2, HO3.out.mono zs4, HN3.out, B4.out.trans (hb3.out.mono zs4)⟩
              case measure => simp [intOf]; omega
            · have hcp1 : ¬ (cap : Int) = (p : Int) := by omega
              have hcp2 : p < cap := by omega
              go_wp2_with (at_builtin; refine wpList_append_own _ rfl (.tmp 42) (.tmp 45) 59 rfl W.heap.size 2 i0 (.int .i64 0) 1 8 Tryz.underlying59 hi0 hz0 hz1 hz2 rfl (by decide) _ _ _ rfl HOW2.out _ 0 _ [] rfl rfl (by intro j u hj; simp at hj) (by intro u hu; simp at hu) (by unfold maxLen; omega) (by omega) (by omega) ?_)
              intro v3 w3 hown3 hgrow3 _
              have HO3 := hideO (HFIN.out v3 w3 (by rw [HD0.out, Nat.sub_self, List.map_nil, List.append_nil]; exact hown3))
              have HN3 := hideO (own_ne HO3.out (by simp [ints_len]; omega))
              have hb3 := hideO (Ze.app_row B2.out z2 (Nat.le_refl _) HO2.out hgrow3)
              clear hown3 hgrow3
              go_wp2_with fail
              go_roundw
              case rel => exact ⟨p + 1, _, by go_num, by omega, HQ.out.1, HQ.out.2, HO3.out.mono zs4, HN3.out, B4.out.trans (hb3.out.mono zs4)⟩
              case measure => simp [intOf]; omega
          · have hpk2 : p < k := by omega
            have hcp0 : ¬ cap = p := by omega
            have hcp1 : ¬ (cap : Int) = (p : Int) := by omega
            obtain ⟨dl, hdl⟩ : ∃ dl, dl = k - p := ⟨_, rfl⟩
            have edl : (k : Int) - (p : Int) = (dl : Int) := by omega
            have edl2 : k - p = dl := hdl.symm
            rw [← hdl] at HFIN HLD
            clear hkp hdl
            go_wp2_with (at_builtin; refine wpList_append_own _ rfl (.tmp 42) (.tmp 45) 59 rfl W.heap.size 2 i0 (.int .i64 0) 1 8 Tryz.underlying59 hi0 hz0 hz1 hz2 rfl (by decide) _ _ _ rfl HOW2.out ⟨g, p, none⟩ dl _ ((ints (l.drop p)).map (Value.int .i64)) rfl ?len3 ?new3 (own_cells _) ?c31 ?c32 (by omega) ?_)
            case len3 => rw [List.length_map, HLD.out, Nat.mul_one]
            case new3 => exact isO_drop O2.out p
            case c31 => have := HLD.out; unfold maxLen; omega
            case c32 => have := HLD.out; omega
            intro v3 w3 hown3 hgrow3 _
            have HO3 := hideO (HFIN.out v3 w3 hown3)
            have HN3 := hideO (own_ne HO3.out (by simp [ints_len]; omega))
            have hb3 := hideO (Ze.app_row B2.out z2 (Nat.le_refl _) HO2.out hgrow3)
            clear hown3 hgrow3
            go_wp2_with fail
            go_roundw
            case rel => exact ⟨k + 1, _, by go_num, by omega, HQ.out.1, HQ.out.2, HO3.out.mono zs4, HN3.out, B4.out.trans (hb3.out.mono zs4)⟩
            case measure => simp [intOf]; omega
    · obtain rfl : k = t.size := by omega
      go_wp2_with fail
      go_ret
      exact ⟨_, l, rfl, G1.out, ⟨HP.out, HS.out⟩, by simp, GB.out⟩
end Go.Proofs.YthbpenanelbbcaaGreatDoor.So


/- What the specification's Bwt answers. -/
namespace Go.Proofs.YthbpenanelbbcaaGreatDoor.So
open Go.RowKit Go.Sort Go.Proofs
open Go.Proofs.YthbpenanelbbcaaGreatDoor.Sh (bt bt_get bt_lt strF IsB made_row)
open Go.Proofs.YthbpenanelbbcaaGreatDoor.In (OwnI Ints)
open Go.Proofs.YthbpenanelbbcaaGreatDoor.Nu (bv)
open Go.Proofs.YthbpenanelbbcaaGreatDoor.Ap (Own0 wpList_append_own0)
open Go.Proofs.YthbpenanelbbcaaGreatDoor.Fr (Own0B own0_string one_newB one_cellB own0B_snoc)
def blB (t : ByteArray) (f : Nat → Nat) (k : Nat) : List UInt8 := (List.range k).map fun j => UInt8.ofNat (lastB t (f j))
theorem blB_len (t : ByteArray) (f : Nat → Nat) (k : Nat) : (blB t f k).length = k := by simp [blB]
theorem blB_snoc (t : ByteArray) (f : Nat → Nat) (k : Nat) : blB t f (k + 1) = blB t f k ++ [UInt8.ofNat (((lastB t (f k) : Nat) : Int)).toNat] := by
 unfold blB
 rw [List.range_succ, List.map_append]
 rfl
set_option maxRecDepth 100000 in
set_option maxHeartbeats 1000000 in
theorem l05Bwt_spec (t : ByteArray) (w : World) (ht : t.size ≤ 48) :
  Calls Tryz.prog 90 #[.string t] w fun e w' => e = .returned (.tuple #[.string (bwtT t), .int .i64 (bwtA t : Nat)]) ∧ Below w.heap.size w w' := by
 obtain ⟨i0, hi0, hz0, hz1, hz2⟩ := info_parts Nu.Tryz.infoJ5
 have HOS := hideO (order_spec t w ht)
 go_enter Tryz.func90, Tryz.ntmps90
 go_wp2_with fail
 refine HOS.out.mono ?_
 rintro e w1 ⟨v, l, rfl, ho, hok, _, hb⟩
 have HE := hideO (bwt_yes ht (fun j hj => rfl) (f := ordF t))
 have hlen : l.length = t.size := by have := hok.1.length_eq; simpa using this
 have HLen := hideO hlen
 have HOR : Hid (∀ k (h : k < l.length), ordF t k = l[k] ∧ l[k] < t.size) := fun k h => ⟨ordF_list hok k h, by
  have := hok.1.mem_iff.1 (List.getElem_mem h)
  simpa using this⟩
 obtain ⟨a, cap, rfl, hcap, hI⟩ := ho.ints
 have HI := hideO hI
 rw [ints_len, hlen] at hcap ⊢
 have HB1 := hideO hb
 have z1 := hb.size
 clear ho hok hb hI hlen
 go_wp2_with fail
 go_loopw [7, 5, 6] (fun i u m wr => ∃ k : Nat, i = .int .i64 k ∧ k ≤ t.size ∧ m = .int .i64 (atK (ordF t) k : Nat) ∧ Own0B wr (w1.heap.size + 1) u (blB t (ordF t) k) ∧ w1.heap.size < wr.heap.size ∧ Below w1.heap.size w1 wr) (fun i _ _ _ => t.size - (intOf i).toNat)
 case atStart => exact ⟨0, rfl, Nat.zero_le _, rfl, .inl ⟨_, rfl, rfl, rfl⟩, by simp, (Below.refl _ _).alloc (Nat.le_refl _) _⟩
 case round =>
  obtain ⟨k, rfl, hk, rfl, hown, hgs, hbel⟩ := hrel
  have O1 := hideO hown
  have GB := hideO hbel
  clear hbel
  by_cases hlt : k < t.size
  ·have hd0 : decide ((k : Int) < (t.size : Int)) = true := decide_eq_true (by omega)
   have hkz : (k : Int) < (t.size : Int) := by omega
   have hkl : k < l.length := by rw [HLen.out]; exact hlt
   have hkl' : k < (ints l).length := by rw [ints_len]; exact hkl
   obtain ⟨b, off, rfl, hb, hc⟩ := (HI.out.below GB.out).some (by omega)
   have ci := hc k hkl'
   have HC : Hid (∀ W : World, Below w1.heap.size w1 W → W.cell? ⟨b, off + k, none⟩ = some (.int .i64 (ints l)[k])) := fun W hW => by
    obtain ⟨b', off', e1, _, hc'⟩ := ((HI.out.below hW).some (by omega : 0 < (ints l).length))
    cases e1
    exact hc' k hkl'
   have ey : (ints l)[k] = ((l[k] : Nat) : Int) := by simp [ints]
   rw [ey] at ci HC
   obtain ⟨ho1, hxt⟩ := HOR.out k hkl
   have HN := hideO (blB_snoc t (ordF t) k)
   have HA := hideO (atK_next (ordF t) k)
   rw [ho1] at HN HA
   obtain ⟨x, hx⟩ : ∃ x, x = l[k] := ⟨_, rfl⟩
   rw [← hx] at ci HC hxt HN HA
   obtain ⟨s, hs⟩ : ∃ s, s = x + t.size - 1 := ⟨_, rfl⟩
   obtain ⟨r, hr⟩ : ∃ r, r = s % t.size := ⟨_, rfl⟩
   have hrt : r < t.size := by rw [hr]; exact Nat.mod_lt _ (by omega)
   have e1 : (x : Int) + (t.size : Int) - 1 = (s : Int) := by omega
   have e2 : (s : Int).tmod (t.size : Int) = (r : Int) := by rw [Int.tmod_eq_emod_of_nonneg (by omega), hr, Int.natCast_emod]
   have hwp : IntKind.i64.wrap (s : Int) = (s : Int) := by rw [IntKind.wrap_i64]; omega
   have hwr : IntKind.i64.wrap (r : Int) = (r : Int) := by rw [IntKind.wrap_i64]; omega
   have hrz : (r : Int) < (t.size : Int) := by omega
   have htn : ¬ ((t.size : Int) = 0) := by omega
   obtain ⟨y, hy, hyt⟩ : ∃ y : UInt8, t[r] = y ∧ y.toNat = lastB t x := ⟨_, rfl, by rw [bt_get]; unfold lastB; rw [hr, hs]⟩
   rw [← hyt] at HN
   have HBL := hideO (blB_len t (ordF t) k)
   obtain ⟨bs, hbs⟩ : ∃ bs, bs = blB t (ordF t) k := ⟨_, rfl⟩
   rw [← hbs] at O1 HN HBL
   obtain ⟨m, hm⟩ : ∃ m, m = atK (ordF t) k := ⟨_, rfl⟩
   rw [← hm] at HA ⊢
   have hmk : m ≤ k := by rw [hm]; exact atK_le _ _
   clear hc ey hown ho1 hx hs hr hyt hbs hm
   have HY := hideO (UInt8.toNat_lt y)
   go_wp2_with (at_builtin; refine wpList_append_own0 _ rfl (.tmp 17) (.tmp 31) 22 rfl (w1.heap.size + 1) 5 i0 (.int .u8 0) 1 1 Tryz.underlying22 hi0 hz0 hz1 hz2 rfl (by decide) _ bs.length (bs.map bv) rfl (Own0.alloc O1.out _) ⟨wr.heap.size, 0, none⟩ 1 1 [.int .u8 (y.toNat : Nat)] rfl rfl (one_newB _ _ _) (one_cellB _) (by decide) (by unfold maxLen; have := HBL.out; omega) (by have := HBL.out; omega) (by simp; omega) ?_)
   intro v' w5 hown' hb5
   have N5 := hideO (own0B_snoc (by omega) (by have := HY.out; omega) hown')
   have ba : Below (w1.heap.size + 1) wr w5 := ((Below.refl (w1.heap.size + 1) wr).alloc (by omega) _).trans (hb5 _ (Nat.le_refl _))
   have B5 := hideO (GB.out.trans (ba.mono (by omega)))
   have c5 := HC.out w5 B5.out
   have z5 := ba.size
   clear hown' hb5 ba ci
   by_cases hx0 : x = 0
   ·subst hx0
    have HM := hideO (HA.out.1 rfl)
    go_wp2_with fail
    go_roundw
    case rel => exact ⟨k + 1, by go_num, by omega, by rw [HM.out], by rw [HN.out]; exact N5.out, by omega, B5.out⟩
    case measure => simp [intOf]; omega
   ·have HM := hideO (HA.out.2 hx0)
    have hxz : ((x : Int) == 0) = false := by simpa using hx0
    go_wp2_with fail
    go_roundw
    case rel => exact ⟨k + 1, by go_num, by omega, by rw [HM.out], by rw [HN.out]; exact N5.out, by omega, B5.out⟩
    case measure => simp [intOf]; omega
  ·have hd0 : decide ((k : Int) < (t.size : Int)) = false := decide_eq_false (by omega)
   obtain rfl : k = t.size := by omega
   have hcv := own0_string (P := Tryz.prog) (src := 22) (dst := 9) _ hown Tryz.underlying22 Tryz.underlying5 Tryz.underlying9
   have HQ : Hid ((⟨(blB t (ordF t) t.size).toArray⟩ : ByteArray) = bwtT t) := HE.out.1.symm
   have HQ2 : Hid (atK (ordF t) t.size = bwtA t) := HE.out.2.1.symm
   rw [HQ.out] at hcv
   rw [HQ2.out]
   have BZ := hideO (HB1.out.trans (GB.out.mono z1))
   clear hown
   go_wp2_with fail
   refine bodyPost_ret (v := .tuple #[.string (bwtT t), .int .i64 (bwtA t : Nat)]) (by simp [results, Tryz.results90, go_sem]) rfl ⟨rfl, BZ.out⟩
end Go.Proofs.YthbpenanelbbcaaGreatDoor.So


/- What the specification's ZerosOf answers, in whole. -/
namespace Go.Proofs.YthbpenanelbbcaaGreatDoor.Ze
open Go.RowKit
open Go.Proofs.YthbpenanelbbcaaGreatDoor.In (Ints OwnI IsO one_newI one_cellI app_one)
open Go.Proofs.YthbpenanelbbcaaGreatDoor.In.Tryz (infoI2)
set_option maxRecDepth 100000 in
set_option maxHeartbeats 1000000 in
theorem zerosOf_spec (l : List Int) (a : Option Addr) (cap B : Nat) (w : World) (hi : Ints w B a l) (hB : B ≤ w.heap.size) (hn : l.length ≤ 1048576) :
    Calls Tryz.prog 91 #[.slice a l.length cap] w fun e w' => ∃ v, e = .returned v ∧ OwnI w' w.heap.size v (zerosR l) ∧ Below w.heap.size w w' := by
  obtain ⟨i0, hi0, hz0, hz1, hz2⟩ := info_parts infoI2
  have hb0 : Below w.heap.size w (w.alloc (.cells #[] 2)) := (Below.refl _ _).alloc (Nat.le_refl _) _
  have HU := hideZ (nums_spec l 255 a cap w.heap.size (w.alloc (.cells #[] 2)) ((hi.mono hB).below hb0) hn)
  have HW := hideZ (OwnI.empty w)
  have HB0 := hideZ hb0
  cases hu : numsR l 255 with
  | false =>
    rw [zerosR_no hu]
    rw [hu] at HU
    clear hi hu hb0
    generalize l.length = n at HU hn ⊢
    go_enter Tryz.func91, Tryz.ntmps91
    go_wp2_with fail
    refine HU.out.mono ?_
    rintro e w' ⟨rfl, hw⟩
    subst w'
    go_wp2_with fail
    go_ret
    exact ⟨_, rfl, HW.out, HB0.out⟩
  | true =>
    rw [zerosR_yes hu]
    have HUP := hideZ (upTo_yes (numsR_yes hu).2)
    have hlong := (numsR_yes hu).1
    rw [hu] at HU
    have HS := hideZ (hi.mono hB)
    clear hi hu hb0
    obtain ⟨n, hln⟩ : ∃ n, n = l.length := ⟨_, rfl⟩
    have HLN := hideZ hln
    rw [← hln] at HU hlong ⊢
    clear hln hn
    go_enter Tryz.func91, Tryz.ntmps91
    go_wp2_with fail
    refine HU.out.mono ?_
    rintro e w' ⟨rfl, hw⟩
    subst w'
    go_wp2_with fail
    go_loopw [5, 3, 4] (fun i u m wr => ∃ k z : Nat, i = .int .i64 k ∧ m = .int .i64 z ∧ k ≤ n ∧ z = (zst (l.take k)).2 ∧ OwnI wr w.heap.size u (zst (l.take k)).1 ∧ Below w.heap.size w wr) (fun i _ _ _ => n - (intOf i).toNat)
    case atStart => exact ⟨0, 0, rfl, rfl, Nat.zero_le _, rfl, HW.out, HB0.out⟩
    case round =>
      obtain ⟨k, z, rfl, rfl, hk, hz, hown, hbel⟩ := hrel
      have hzl := zst_len (l.take k)
      rw [List.length_take] at hzl
      have hzk : (zst (l.take k)).1.length + z ≤ k := by omega
      have GB := hideZ hbel
      have HZ := hideZ hz
      have hsz := hbel.size
      have hrl := zrun_len z
      obtain ⟨a', cap', rfl, _, _⟩ := hown.ints
      obtain ⟨lk, hlk⟩ : ∃ lk, lk = (zst (l.take k)).1 := ⟨_, rfl⟩
      rw [← hlk] at hown hzk ⊢
      have G1 := hideZ hown
      have HLK := hideZ hlk
      clear hz hown hbel hlk hzl
      have HRS := hideZ (fun W => run_spec z W (by omega))
      by_cases hlt : k < n
      · have hkl : k < l.length := by rw [← HLN.out]; exact hlt
        obtain ⟨b, off, rfl, hb, hc⟩ := (HS.out.below GB.out).some (by omega)
        have ci := hc k hkl
        have hx255 := HUP.out _ (List.getElem_mem hkl)
        obtain ⟨x, hx⟩ : ∃ x, x = l[k] := ⟨_, rfl⟩
        have HX := hideZ hx
        rw [← hx] at ci hx255
        clear hc hx
        by_cases h0 : x = 0
        · have HZ1 : Hid (zst (l.take (k + 1)) = (lk, z + 1)) := by
            unfold Hid
            rw [zst_zero hkl (by rw [← HX.out]; exact h0), HZ.out, HLK.out]
          have hbx : (x == 0) = true := beq_iff_eq.2 h0
          clear h0
          go_wp2_with fail
          go_roundw
          case rel => exact ⟨k + 1, z + 1, by go_num, by go_num, by omega, by rw [HZ1.out], by rw [HZ1.out]; exact G1.out, GB.out⟩
          case measure => simp [intOf]; omega
        · have HZ1 : Hid (zst (l.take (k + 1)) = (lk ++ zrun z ++ [x + 1], 0)) := by
            unfold Hid
            rw [zst_other hkl (by rw [← HX.out]; exact h0), HZ.out, HX.out, HLK.out]
          have hbx : (x == 0) = false := beq_eq_false_iff_ne.2 h0
          clear h0
          go_wp2_with fail
          refine (HRS.out wr).mono ?_
          rintro e w4 ⟨v4, rfl, hown4, hne4, hbel4⟩
          have G4 := hideZ (G1.out.below hbel4)
          have B4 := hideZ (GB.out.trans (hbel4.mono hsz))
          have z4 := hbel4.size
          obtain ⟨g4, cap4, rfl, hg4, hg4', ho4⟩ := own_some hown4 hne4
          have O4 := hideZ ho4
          clear hown4 hbel4 hne4 ho4
          obtain ⟨rl, hrl2⟩ : ∃ rl, rl = zrun z := ⟨_, rfl⟩
          rw [← hrl2] at O4 hrl HZ1 ⊢
          clear hrl2 HRS
          go_wp2_with (at_builtin; refine wpList_append_own _ rfl (.tmp 24) (.tmp 26) 59 rfl w.heap.size 2 i0 (.int .i64 0) 1 8 Tryz.underlying59 hi0 hz0 hz1 hz2 rfl (by decide) _ _ _ rfl G4.out ⟨g4, 0, none⟩ _ cap4 (rl.map (Value.int .i64)) rfl (by simp) (own_news O4.out) (own_cells rl) (by unfold maxLen; omega) (by omega) (by omega) ?_)
          intro v' w5 hown' hgrow _
          have hown5 := OwnI.joined hown'
          have b5 := app_row B4.out (by omega) (Nat.le_refl _) G4.out hgrow
          have HL4 : Hid ((lk ++ rl).length ≤ 400) := by
            unfold Hid
            rw [List.length_append]
            omega
          obtain ⟨l4, hl4⟩ : ∃ l4, l4 = lk ++ rl := ⟨_, rfl⟩
          rw [← hl4] at hown5 HZ1 HL4
          have N5 := hideZ hown5
          have B5 := hideZ b5
          have z5 := b5.size
          obtain ⟨a5, cap5, rfl, _, _⟩ := hown5.ints
          have c5 : w5.cell? ⟨b, off + k, none⟩ = some (.int .i64 x) := by
            have h1 := ((HS.out.below b5).some (by omega : 0 < l.length))
            obtain ⟨b', off', e1, _, hc'⟩ := h1
            cases e1
            rw [hc' k hkl, HX.out]
          clear hown' hgrow hown5 b5 hl4 ci
          go_wp2_with (at_builtin; refine wpList_append_own _ rfl (.tmp 28) (.tmp 34) 59 rfl w.heap.size 2 i0 (.int .i64 0) 1 8 Tryz.underlying59 hi0 hz0 hz1 hz2 rfl (by decide) _ _ _ rfl (OwnI.alloc N5.out _) ⟨w5.heap.size, 0, none⟩ 1 1 [.int .i64 (x + 1)] rfl rfl (one_newI _ _ _) (one_cellI _) (by unfold maxLen; have := HL4.out; omega) (by have := HL4.out; omega) (by simp; omega) ?_)
          intro v' w6 hown' hgrow _
          have N6 := hideZ (OwnI.snoc hown')
          have b6 := hideZ (app_one B5.out (by omega) (Nat.le_refl _) N5.out hgrow)
          clear hown' hgrow
          go_wp2_with fail
          go_roundw
          case rel => exact ⟨k + 1, 0, by go_num, rfl, by omega, by rw [HZ1.out], by rw [HZ1.out]; exact N6.out, b6.out⟩
          case measure => simp [intOf]; omega
      · have hkn : k = l.length := by have := HLN.out; omega
        have HT : Hid (l.take k = l) := by
          unfold Hid
          rw [hkn, List.take_length]
        have HR : Hid ((zst l).1 ++ zrun (zst l).2 = lk ++ zrun z) := by
          unfold Hid
          rw [HLK.out, HZ.out, HT.out]
        clear hkn
        go_wp2_with fail
        refine (HRS.out wr).mono ?_
        rintro e w4 ⟨v4, rfl, hown4, hne4, hbel4⟩
        have G4 := hideZ (G1.out.below hbel4)
        have B4 := hideZ (GB.out.trans (hbel4.mono hsz))
        have z4 := hbel4.size
        obtain ⟨g4, cap4, rfl, hg4, hg4', ho4⟩ := own_some hown4 hne4
        have O4 := hideZ ho4
        clear hown4 hbel4 hne4 ho4
        obtain ⟨rl, hrl2⟩ : ∃ rl, rl = zrun z := ⟨_, rfl⟩
        rw [← hrl2] at O4 hrl HR ⊢
        clear hrl2 HRS
        go_wp2_with (at_builtin; refine wpList_append_own _ rfl (.tmp 36) (.tmp 38) 59 rfl w.heap.size 2 i0 (.int .i64 0) 1 8 Tryz.underlying59 hi0 hz0 hz1 hz2 rfl (by decide) _ _ _ rfl G4.out ⟨g4, 0, none⟩ _ cap4 (rl.map (Value.int .i64)) rfl (by simp) (own_news O4.out) (own_cells rl) (by unfold maxLen; omega) (by omega) (by omega) ?_)
        intro v' w5 hown' hgrow _
        have N5 := hideZ (OwnI.joined hown')
        have B5 := hideZ (app_row B4.out (by omega) (Nat.le_refl _) G4.out hgrow)
        clear hown' hgrow
        go_wp2_with fail
        go_ret
        exact ⟨_, rfl, by rw [HR.out]; exact N5.out, B5.out⟩
end Go.Proofs.YthbpenanelbbcaaGreatDoor.Ze

